import Derived.Test.YtldplmchgmoopaaDoorXAM
import Derived.Test.YtldplmchgmoopaaDoorXAN
import Derived.Test.YtldplmchgmoopaaDoorXAL
import Derived.Deep.Cut
import Derived.Deep.CutRange
import Derived.Deep.DeepCutAuto
import Derived.Test.YtldplmchgmoopaaDoorXAH
import Derived.Deep.RegionHeld3
namespace Go.Proofs.YtldplmchgmoopaaDoor
open Go.RowKit
set_option linter.unusedVariables false
set_option linter.unusedSimpArgs false

theorem MkR.last {W : World} {B rb m : Nat} {qs : List Rw} {q : Rw} (h : MkR W B rb m (qs ++ [q])) (k : Nat) (hk : qs.length = k) : W.cell? ⟨rb, k, none⟩ = some (qv q) := by
  rw [Joins.cell_of_block h.hb]
  subst hk
  rw [List.getElem?_toArray, List.getElem?_append_left (by simp), List.getElem?_map, List.getElem?_append_right (Nat.le_refl _), Nat.sub_self]
  rfl
/-- A cell of the last row is written with what it holds. -/
theorem MkR.again {W : World} {B rb m z n : Nat} {qs : List Rw} {r : List Cl} (h : MkR W B rb m (qs ++ [⟨some ⟨z, 0, none⟩, n, n, r⟩])) (i : Nat) (hi : i < r.length) :
    ((W.setCell ⟨z, i * 2, none⟩ (.bool (r.getD i default).h)).setCell ⟨z, i * 2 + 1, none⟩ (.int .i64 (r.getD i default).v)).heap = W.heap := by
  obtain ⟨z', e1, _, _, _, hz⟩ := h.ok _ (List.mem_append.2 (.inr (List.mem_singleton.2 rfl)))
  simp only at e1 hz
  injection e1 with e1
  injection e1 with e1
  subst e1
  have hb := Joins.block_setCell (i := i * 2 + 1) (Joins.block_setCell (i := i * 2) hz (.bool (r.getD i default).h)) (.int .i64 (r.getD i default).v)
  have er : r.set i (r.getD i default) = r := by
    apply List.ext_getElem?
    intro j
    rw [List.getElem?_set]
    split
    · rename_i q
      subst q
      simp [hi]
    · rfl
  rw [List.setIfInBounds_toArray, List.setIfInBounds_toArray, clv_set r i _ hi, er] at hb
  apply Array.ext_getElem?
  intro j
  by_cases q : j = z
  · subst q
    rw [hb, hz]
  · have q' : ¬ z = j := fun e => q e.symm
    simp [World.setCell, Array.getElem?_modify, q']
theorem MkR.same {W W' : World} {B rb m : Nat} {qs : List Rw} (h : MkR W B rb m qs) (e : W'.heap = W.heap) : MkR W' B rb m qs :=
  ⟨by rw [e]; exact h.hb, h.le, fun q hq => (h.ok q hq).stay (fun z cs hz => by rw [e]), h.bl, h.nd⟩
theorem MkR.rowz {W : World} {B rb m z n : Nat} {qs : List Rw} {r : List Cl} (h : MkR W B rb m (qs ++ [⟨some ⟨z, 0, none⟩, n, n, r⟩])) (i : Nat) (hi : i < r.length) : CC W z (i * 2) (r.getD i default) ∧ W.frozen? ⟨z, i * 2, none⟩ = false ∧ W.frozen? ⟨z, i * 2 + 1, none⟩ = false := by
  obtain ⟨z', e1, _, _, _, hz⟩ := h.ok _ (List.mem_append.2 (.inr (List.mem_singleton.2 rfl)))
  simp only at e1 hz
  injection e1 with e1
  injection e1 with e1
  subst e1
  refine ⟨⟨?_, ?_⟩, Joins.unfrozen_of_block hz _, Joins.unfrozen_of_block hz _⟩
  · have := clv_at r i hi 0 (by omega)
    rw [Joins.cell_of_block hz]
    simpa [Cl.two] using this
  · have := clv_at r i hi 1 (by omega)
    rw [Joins.cell_of_block hz]
    simpa [Cl.two] using this
theorem own_len {w : World} {B n m c s : Nat} {E : TypeId} {a : Option Addr} {xs : List Value} (h : w.ownsRow B E s (.slice a m c) n xs) : m = n := by
  rcases h.2 with ⟨e, e0⟩ | ⟨g, cap, cur, e, _⟩
  · injection e with _ e _
    omega
  · injection e with _ e _
theorem PsT.later {B : Nat} {W W' : World} {u : Tb} {R : PR} (h : PsT B W u R) (b : Below W.heap.size W W') : PsT B W' u R :=
  ⟨h.ok.later b, h.ns, h.rs, own_back h.no b, h.ro.below b⟩
end Go.Proofs.YtldplmchgmoopaaDoor

namespace Go.Proofs.YtldplmchgmoopaaDoor
open Go.RowKit
set_option linter.unusedVariables false
set_option linter.unusedSimpArgs false

structure MkL (W : World) (B rb m : Nat) (qs : List Rw) (z n : Nat) (r : List Cl) : Prop where
  mr : MkR W B rb m (qs ++ [⟨some ⟨z, 0, none⟩, n, n, r⟩])
  ap : ∀ q ∈ qs, ∀ y, q.a = some ⟨y, 0, none⟩ → y ≠ z
theorem MkL.hz {W : World} {B rb m z n : Nat} {qs : List Rw} {r : List Cl} (h : MkL W B rb m qs z n r) : W.heap[z]? = some (.cells (clv r).toArray 65) ∧ B ≤ z ∧ n = r.length := by
  obtain ⟨z', e1, e2, e3, _, hz⟩ := h.mr.ok _ (List.mem_append.2 (.inr (List.mem_singleton.2 rfl)))
  simp only at e1 hz e3
  injection e1 with e1
  injection e1 with e1
  subst e1
  exact ⟨hz, e2, e3⟩
theorem MkL.below {W W' : World} {B rb m z n : Nat} {qs : List Rw} {r : List Cl} (h : MkL W B rb m qs z n r) (b : Below W.heap.size W W') : MkL W' B rb m qs z n r := ⟨h.mr.below b, h.ap⟩
theorem MkL.same {W W' : World} {B rb m z n : Nat} {qs : List Rw} {r : List Cl} (h : MkL W B rb m qs z n r) (e : W'.heap = W.heap) : MkL W' B rb m qs z n r := ⟨h.mr.same e, h.ap⟩
theorem MkL.new {W V : World} {B rb m k z n : Nat} {qs : List Rw} {r : List Cl} (h : MkR W B rb m qs) (hk : qs.length = k) (hm : k < m) (b : Below W.heap.size W V) (hz : V.heap[z]? = some (.cells (clv r).toArray 65)) (hB : B ≤ z) (hn : r.length = n) (hf : W.heap.size ≤ z) :
    MkL (V.setCell ⟨rb, k, none⟩ (.slice (some ⟨z, 0, none⟩) n n)) B rb m qs z n r := by
  refine ⟨h.push hk hm b hz hB hn hf, fun q hq y e => ?_⟩
  obtain ⟨y', e1, _, _, _, hy⟩ := h.ok q hq
  rw [e1] at e
  injection e with e
  injection e with e
  have := blk_lt hy
  omega
theorem nd_same {qs : List Rw} {a : Option Addr} {n n' c c' : Nat} {r r' : List Cl} (h : (qs ++ [(⟨a, n, c, r⟩ : Rw)]).Pairwise fun p q => p.a ≠ q.a) : (qs ++ [(⟨a, n', c', r'⟩ : Rw)]).Pairwise fun p q => p.a ≠ q.a := by
  obtain ⟨h1, _, h3⟩ := List.pairwise_append.1 h
  refine List.pairwise_append.2 ⟨h1, List.pairwise_singleton _ _, fun p hp x hx => ?_⟩
  rw [List.mem_singleton.1 hx]
  exact h3 p hp (⟨a, n, c, r⟩ : Rw) (List.mem_singleton.2 rfl)
theorem MkL.set {W : World} {B rb m z n : Nat} {qs : List Rw} {r : List Cl} (h : MkL W B rb m qs z n r) (i : Nat) (hi : i < r.length) (c : Cl) :
    MkL ((W.setCell ⟨z, i * 2, none⟩ (.bool c.h)).setCell ⟨z, i * 2 + 1, none⟩ (.int .i64 c.v)) B rb m qs z n (r.set i c) := by
  obtain ⟨hz, hB, hn⟩ := h.hz
  have hb := Joins.block_setCell (i := i * 2 + 1) (Joins.block_setCell (i := i * 2) hz (.bool c.h)) (.int .i64 c.v)
  rw [List.setIfInBounds_toArray, List.setIfInBounds_toArray, clv_set r i _ hi] at hb
  have st : ∀ y, y ≠ z → ((W.setCell ⟨z, i * 2, none⟩ (.bool c.h)).setCell ⟨z, i * 2 + 1, none⟩ (.int .i64 c.v)).heap[y]? = W.heap[y]? := fun y hy => by
    have q' : ¬ z = y := fun e => hy e.symm
    simp [World.setCell, Array.getElem?_modify, q']
  have nr : rb ≠ z := fun e => blk_ty hz h.mr.hb (by decide) e.symm
  refine ⟨⟨(st rb nr).trans (h.mr.hb.trans ?_), by have := h.mr.le; simpa using this, fun q hq => ?_, h.mr.bl, nd_same h.mr.nd⟩, h.ap⟩
  · simp [qv]
  · rcases List.mem_append.1 hq with hq' | hq'
    · obtain ⟨y, e1, e2, e3, e4, e5⟩ := h.mr.ok q (List.mem_append.2 (.inl hq'))
      exact ⟨y, e1, e2, e3, e4, (st y (h.ap q hq' y e1)).trans e5⟩
    · rw [List.mem_singleton.1 hq']
      exact ⟨z, rfl, hB, by simpa using hn, by simpa using hn, hb⟩
theorem MkL.rowz {W : World} {B rb m z n : Nat} {qs : List Rw} {r : List Cl} (h : MkL W B rb m qs z n r) (i : Nat) (hi : i < r.length) : CC W z (i * 2) (r.getD i default) ∧ W.frozen? ⟨z, i * 2, none⟩ = false ∧ W.frozen? ⟨z, i * 2 + 1, none⟩ = false := h.mr.rowz i hi
theorem MkL.last {W : World} {B rb m z n : Nat} {qs : List Rw} {r : List Cl} (h : MkL W B rb m qs z n r) (k : Nat) (hk : qs.length = k) : W.cell? ⟨rb, k, none⟩ = some (.slice (some ⟨z, 0, none⟩) n n) := h.mr.last k hk
end Go.Proofs.YtldplmchgmoopaaDoor

namespace Go.Proofs.YtldplmchgmoopaaDoor
open Go.RowKit
set_option linter.unusedVariables false
set_option linter.unusedSimpArgs false

/-- What is wrong with a table or with names that are asked of it. -/
def bindE (ss : List ByteArray) (rs : List (List Cl)) (ns : List ByteArray) : Int := if validE ss rs = 0 then (if ns.all nameB then 0 else 52) else validE ss rs
/-- The rows by other names. -/
def bndR (ss : List ByteArray) (rs : List (List Cl)) (ns : List ByteArray) : List (List Cl) := rs.map fun r => ns.map fun s => atC r (colF ss s 0)
theorem bind_ok {ss : List ByteArray} {rs : List (List Cl)} {ns : List ByteArray} (h : bindE ss rs ns = 0) : validE ss rs = 0 ∧ ns.all nameB = true := by
  unfold bindE at h
  by_cases q : validE ss rs = 0
  · rw [if_pos q] at h
    refine ⟨q, ?_⟩
    cases hb : ns.all nameB with
    | true => rfl
    | false => rw [hb] at h; exact absurd h (by decide)
  · rw [if_neg q] at h; exact absurd h q

end Go.Proofs.YtldplmchgmoopaaDoor

namespace Go.Proofs.YtldplmchgmoopaaDoor
open Go.RowKit
set_option linter.unusedVariables false
set_option linter.unusedSimpArgs false

theorem ovR_get {ss tt : List ByteArray} {ra rb : List (List Cl)} {d : Nat} (h : d < max ra.length rb.length) : (ovR ss ra tt rb)[d]? = some (ovRow ss tt (ra.getD d []) (rb.getD d [])) := by
  unfold ovR; simp [h]
end Go.Proofs.YtldplmchgmoopaaDoor

namespace Go.Proofs.YtldplmchgmoopaaDoor
open Go.RowKit
set_option linter.unusedVariables false
set_option linter.unusedSimpArgs false

/-- Pairs as they lie. -/
def prV (l : List (ByteArray × Int)) : List Value := l.flatMap fun p => [.string p.1, .int .i64 p.2]
theorem prV_app (l m : List (ByteArray × Int)) : prV (l ++ m) = prV l ++ prV m := by unfold prV; rw [List.flatMap_append]
theorem infoP : (Tryd.prog.info? 67).map (fun i => (i.zero, i.size, i.bytes)) = some (some (.agg #[.string ⟨#[]⟩, .int .i64 0]), 2, 24) := by kernel_rfl
theorem two_news (W : World) (u v : Value) (E : TypeId) : ∀ y, some (⟨W.heap.size, 0, none⟩ : Addr) = some y → ∀ j z, [u, v][j]? = some z → (W.alloc (.cells #[u, v] E)).cell? (y.add j) = some z := by
  intro y e j z hz
  injection e with e
  subst e
  obtain ⟨q0, q1, _, _⟩ := box_all2 (World.alloc_heap_new W (.cells #[u, v] E))
  match j, hz with
  | 0, hz => simp at hz; subst hz; rw [Go.Addr.add_lit]; exact q0
  | 1, hz => simp at hz; subst hz; rw [Go.Addr.add_lit]; exact q1
  | j + 2, hz => simp at hz
end Go.Proofs.YtldplmchgmoopaaDoor

namespace Go.Proofs.YtldplmchgmoopaaDoor
open Go.RowKit
set_option linter.unusedVariables false
set_option linter.unusedSimpArgs false

theorem own_apart {W : World} {B B' : Nat} {E F : TypeId} {s s' n n' : Nat} {v v' : Value} {xs xs' : List Value} (h : W.ownsRow B E s v n xs) (k : W.ownsRow B' F s' v' n' xs') (ne : E ≠ F) : v.ownBlock = none ∨ v.ownBlock ≠ v'.ownBlock := by
  rcases h.2 with ⟨rfl, _⟩ | ⟨g, cap, cur, rfl, _, hg, _⟩
  · exact .inl rfl
  · exact .inr (fun e => ty_apart k hg ne e.symm)
/-- A list of rows of one's own, each with room behind its end. -/
structure RwA (W : World) (B : Nat) (v : Value) (qs : List Rw) : Prop where
  own : W.ownsRow B 50 1 v qs.length (qs.map qv)
  ok : ∀ q ∈ qs, W.ownsRow B 65 2 (qv q) q.cs.length (clv q.cs) ∧ q.n = q.cs.length
theorem RwA.below {W W' : World} {B : Nat} {v : Value} {qs : List Rw} (h : RwA W B v qs) (b : Below W.heap.size W W') : RwA W' B v qs :=
  ⟨own_back h.own b, fun q hq => ⟨own_back (h.ok q hq).1 b, (h.ok q hq).2⟩⟩
theorem RwA.mono {W : World} {B B' : Nat} {v : Value} {qs : List Rw} (h : RwA W B v qs) (hB : B' ≤ B) : RwA W B' v qs := ⟨own_mono h.own hB, fun q hq => ⟨own_mono (h.ok q hq).1 hB, (h.ok q hq).2⟩⟩
theorem RwA.nil (W : World) (B : Nat) : RwA W B (.slice none 0 0) [] := ⟨World.ownsRow_nil _ _ _ _, fun q h => by cases h⟩
theorem RwA.push {W W' : World} {B : Nat} {v v' : Value} {qs : List Rw} {q : Rw} (h : RwA W B v qs) (k : W.ownsRow B 65 2 (qv q) q.cs.length (clv q.cs)) (hn : q.n = q.cs.length) (o : W'.ownsRow B 50 1 v' (qs.length + 1) (qs.map qv ++ [qv q])) (g : W.grownBy W' v.ownBlock) : RwA W' B v' (qs ++ [q]) := by
  refine ⟨by rw [List.length_append, List.map_append]; exact o, fun p hp => ?_⟩
  rcases List.mem_append.1 hp with hp | hp
  · exact ⟨(h.ok p hp).1.kept g (own_apart (h.ok p hp).1 h.own (by decide)), (h.ok p hp).2⟩
  · rw [List.mem_singleton.1 hp]
    exact ⟨k.kept g (own_apart k h.own (by decide)), hn⟩
theorem rc_own {W : World} {B n c : Nat} {a : Option Addr} {cs : List Cl} (h : W.ownsRow B 65 2 (.slice a n c) cs.length (clv cs)) (hn : n = cs.length) (hl : n ≤ 8796093021952) (hw : ∀ c ∈ cs, (Lit.int .i64 c.v).wf = true) : RC W a n cs ∧ (a = none → n = 0 ∧ c = 0) ∧ n ≤ c ∧ c ≤ maxLen := by
  subst hn
  have h0 := h
  rcases h.2 with ⟨e, e0⟩ | ⟨g, cap, cur, e, _, hg, k1, k2, _⟩
  · injection e with e1 e2 e3
    subst e1 e3
    exact ⟨⟨rfl, hl, hw, .inl e0⟩, fun _ => ⟨e0, rfl⟩, by omega, by unfold maxLen; omega⟩
  · injection e with e1 e2 e3
    subst e1 e3
    refine ⟨⟨rfl, hl, hw, .inr ⟨g, 0, rfl, blk_lt hg, fun i hi => ?_⟩⟩, (fun e => by cases e), k1, k2⟩
    have a0 := clv_at cs i hi 0 (by omega)
    have a1 := clv_at cs i hi 1 (by omega)
    refine ⟨?_, ?_⟩
    · rw [World.ownsRow.cellAt h0 (0 + i * 2) (by omega), Nat.zero_add]; simpa [Cl.two] using a0
    · rw [World.ownsRow.cellAt h0 (0 + i * 2 + 1) (by omega), Nat.zero_add]; simpa [Cl.two] using a1
theorem RwA.rl {W : World} {B n c : Nat} {a : Option Addr} {qs : List Rw} (h : RwA W B (.slice a n c) qs) (h1 : qs.length ≤ 4096) (h2 : ∀ q ∈ qs, q.cs.length ≤ 8796093021952) (h3 : ∀ q ∈ qs, ∀ c ∈ q.cs, (Lit.int .i64 c.v).wf = true) : n = qs.length ∧ RL W a n qs ∧ (a = none → n = 0 ∧ c = 0) := by
  have hc := h.own
  have ok : ∀ r ∈ qs, RC W r.a r.n r.cs ∧ (r.a = none → r.n = 0 ∧ r.cap = 0) ∧ r.n ≤ r.cap ∧ r.cap ≤ maxLen := fun r hr => rc_own (h.ok r hr).1 (h.ok r hr).2 (by rw [(h.ok r hr).2]; exact h2 r hr) (h3 r hr)
  rcases h.own.2 with ⟨e, e0⟩ | ⟨g, cap, cur, e, hB, hg, k1, k2, k3, k4⟩
  · injection e with e1 e2 e3
    subst e1 e2 e3
    exact ⟨e0.symm, ⟨e0, by omega, ok, .inl rfl⟩, fun _ => ⟨rfl, rfl⟩⟩
  · injection e with e1 e2 e3
    subst e1 e2 e3
    refine ⟨rfl, ⟨rfl, by omega, ok, .inr ⟨g, 0, rfl, blk_lt hg, fun i hi => ?_⟩⟩, (fun e => by cases e)⟩
    rw [Nat.zero_add, World.ownsRow.cellAt hc i (by omega)]
    rw [List.getElem?_map, List.getElem?_eq_getElem hi]
    simp [List.getD, hi, qv]
/-- Of a valid table a cell is said as it lies. -/
theorem cell_raw {ss : List ByteArray} {rs : List (List Cl)} (g : Gd ss rs) (s : ByteArray) (d : Nat) : cellT ss rs s d = rawT ss rs s d := by
  unfold cellT
  split
  · rfl
  · rename_i h
    unfold rawT at h ⊢
    by_cases q : colF ss s 0 < 0
    · rw [if_pos q]
    · rw [if_neg q] at h ⊢
      obtain ⟨c, hc⟩ : ∃ c, (colF ss s 0).toNat = c := ⟨_, rfl⟩
      rw [hc] at h ⊢
      by_cases z : c < (rs.getD d []).length
      · have hd : d < rs.length := by
          refine Nat.lt_of_not_le fun k => ?_
          rw [row_at k] at z
          simp at z
        have m1 : rs.getD d [] ∈ rs := by rw [show rs.getD d [] = rs[d] by simp [List.getD, hd]]; exact List.getElem_mem hd
        have e : (rs.getD d []).getD c default = (rs.getD d [])[c] := by rw [List.getD_eq_getElem?_getD, List.getElem?_eq_getElem z]; rfl
        have m2 : (rs.getD d []).getD c default ∈ rs.getD d [] := by rw [e]; exact List.getElem_mem z
        have := (g.st _ m1 _ m2).1
        unfold stB at this
        generalize (rs.getD d []).getD c default = x at *
        obtain ⟨xh, xv⟩ := x
        simp only [Bool.not_eq_true] at h
        subst h
        simp at this
        rw [this]
        rfl
      · exact (atD_nil _ _ (by omega)).symm
theorem own_form2 {W : World} {B n : Nat} {v : Value} {T : TypeId} {k : Nat} {xs : List Value} (h : W.ownsRow B T k v n xs) : ∃ a c, v = .slice a n c := by
  rcases h.2 with ⟨rfl, e⟩ | ⟨g, cap, cur, rfl, _⟩
  · exact ⟨none, 0, by rw [e]⟩
  · exact ⟨_, _, rfl⟩
theorem clv_snoc (cs : List Cl) (c : Cl) : clv (cs ++ [c]) = clv cs ++ [.bool c.h, .int .i64 c.v] := by rw [clv_app]; rfl
theorem step_app_run {ops : Array Oper} {o : Oper} {a : Act} {K : Act → World → Prop} {Q : Exit → Act → World → Prop} {E : Prop} {w : World} (hgd : o.guard = none) (s x : Operand) (T : TypeId)
    (ho : o.op = .call { callee := .builtin .append, args := #[s, x], argTypes := #[T, T] }) (v u r : Value) (W1 : World) (hs : a.eval s = v) (hx : a.eval x = u) (hr : ∀ ty, (Builtin.append_ #[T, T] ty #[v, u]).run Tryd.prog w = .ok r W1)
    (h : K (a.put o.dst r) W1) : if Region.wanted o (yielded ops a.tmps) = true then Oper.wp Tryd.prog o a w K Q else E := by
  rw [if_pos (by simp [Region.wanted, hgd])]
  unfold Oper.wp execOp
  simp only [ho, resolve, invoke, builtin, Sem.run_bind, Sem.run_pure, Result.andThen_ok, List.map_toArray, List.map_cons, List.map_nil, hs, hx, hr]
  exact h
end Go.Proofs.YtldplmchgmoopaaDoor

namespace Go.Proofs.YtldplmchgmoopaaDoor
open Go.RowKit
set_option linter.unusedVariables false
set_option linter.unusedSimpArgs false

/-- A list of the book: its field, its elements' type and size, how many, and its cells. -/
structure BkF where
  k : Nat
  T : TypeId
  s : Nat
  n : Nat
  xs : List Value
/-- The book: its cells, its lists, and the blocks that stay. -/
structure BkO (W : World) (B : Nat) (bk : Nat) (vs : List Value) (fs : List BkF) (sn : List (Nat × Obj)) : Prop where
  hb : W.heap[bk]? = some (.cells vs.toArray 30)
  hl : vs.length = 19
  own : ∀ f ∈ fs, W.ownsRow B f.T f.s (vs.getD f.k default) f.n f.xs ∧ f.k < 19 ∧ f.T ≠ 30
  ap : fs.Pairwise fun f g => f.k ≠ g.k ∧ ((vs.getD f.k default).ownBlock = none ∨ (vs.getD f.k default).ownBlock ≠ (vs.getD g.k default).ownBlock)
  st : ∀ p ∈ sn, W.heap[p.1]? = some p.2 ∧ p.1 ≠ bk ∧ ∀ f ∈ fs, (vs.getD f.k default).ownBlock ≠ some p.1
theorem own_keep {W W' : World} {B : Nat} {E : TypeId} {s n : Nat} {v : Value} {xs : List Value} (h : W.ownsRow B E s v n xs) (hk : ∀ b, v.ownBlock = some b → W'.heap[b]? = W.heap[b]?) : W'.ownsRow B E s v n xs := by
  refine ⟨h.1, ?_⟩
  rcases h.2 with z | ⟨g, cap, cur, rfl, h1, hg, r⟩
  · exact .inl z
  · exact .inr ⟨g, cap, cur, rfl, h1, (hk g rfl).trans hg, r⟩
theorem own_blk {W : World} {B b : Nat} {E : TypeId} {s n : Nat} {v : Value} {xs : List Value} (h : W.ownsRow B E s v n xs) (hb : v.ownBlock = some b) : ∃ cur, W.heap[b]? = some (.cells cur E) := by
  rcases h.2 with ⟨rfl, _⟩ | ⟨g, cap, cur, rfl, _, hg, _⟩
  · cases hb
  · injection hb with hb
    subst hb
    exact ⟨cur, hg⟩
/-- What is kept where none of its blocks turns. -/
theorem BkO.keep {W W' : World} {B bk : Nat} {vs : List Value} {fs : List BkF} {sn : List (Nat × Obj)} (h : BkO W B bk vs fs sn) (h1 : W'.heap[bk]? = W.heap[bk]?) (h2 : ∀ f ∈ fs, ∀ b, (vs.getD f.k default).ownBlock = some b → W'.heap[b]? = W.heap[b]?) (h3 : ∀ p ∈ sn, W'.heap[p.1]? = W.heap[p.1]?) : BkO W' B bk vs fs sn :=
  ⟨h1.trans h.hb, h.hl, fun f hf => ⟨own_keep (h.own f hf).1 (h2 f hf), (h.own f hf).2⟩, h.ap, fun p hp => ⟨(h3 p hp).trans (h.st p hp).1, (h.st p hp).2⟩⟩
theorem BkO.lt {W : World} {B bk : Nat} {vs : List Value} {fs : List BkF} {sn : List (Nat × Obj)} (h : BkO W B bk vs fs sn) : bk < W.heap.size ∧ (∀ f ∈ fs, ∀ b, (vs.getD f.k default).ownBlock = some b → b < W.heap.size) ∧ ∀ p ∈ sn, p.1 < W.heap.size :=
  ⟨blk_lt h.hb, fun f hf b e => by obtain ⟨cur, hc⟩ := own_blk (h.own f hf).1 e; exact blk_lt hc, fun p hp => blk_lt (h.st p hp).1⟩
theorem BkO.below {W W' : World} {B bk : Nat} {vs : List Value} {fs : List BkF} {sn : List (Nat × Obj)} (h : BkO W B bk vs fs sn) (b : Below W.heap.size W W') : BkO W' B bk vs fs sn := by
  obtain ⟨l1, l2, l3⟩ := h.lt
  exact h.keep (b.block _ l1) (fun f hf x e => b.block _ (l2 f hf x e)) (fun p hp => b.block _ (l3 p hp))
/-- A block that is none of the book's. -/
def BkO.Free (bk : Nat) (vs : List Value) (fs : List BkF) (sn : List (Nat × Obj)) (z : Nat) : Prop := z ≠ bk ∧ (∀ f ∈ fs, (vs.getD f.k default).ownBlock ≠ some z) ∧ ∀ p ∈ sn, p.1 ≠ z
theorem BkO.new {W : World} {B bk z : Nat} {vs : List Value} {fs : List BkF} {sn : List (Nat × Obj)} (h : BkO W B bk vs fs sn) (hz : W.heap.size ≤ z) : BkO.Free bk vs fs sn z := by
  obtain ⟨l1, l2, l3⟩ := h.lt
  exact ⟨by omega, fun f hf e => by have := l2 f hf z e; omega, fun p hp e => by have := l3 p hp; omega⟩
/-- Another's block turns. -/
theorem BkO.other {W W' : World} {B bk : Nat} {r : Option Nat} {vs : List Value} {fs : List BkF} {sn : List (Nat × Obj)} (h : BkO W B bk vs fs sn) (g : W.grownBy W' r) (hz : ∀ z, r = some z → BkO.Free bk vs fs sn z) : BkO W' B bk vs fs sn := by
  obtain ⟨l1, l2, l3⟩ := h.lt
  refine h.keep (g.block _ l1 ?_) (fun f hf x e => g.block _ (l2 f hf x e) ?_) (fun p hp => g.block _ (l3 p hp) ?_)
  · intro e; exact (hz bk e.symm).1 rfl
  · intro q; exact (hz x q.symm).2.1 f hf e
  · intro q; exact (hz p.1 q.symm).2.2 p hp rfl
theorem BkO.cell {W : World} {B bk : Nat} {vs : List Value} {fs : List BkF} {sn : List (Nat × Obj)} (h : BkO W B bk vs fs sn) (k : Nat) (hk : k < 19) : W.cell? ⟨bk, k, none⟩ = some (vs.getD k default) ∧ W.frozen? ⟨bk, k, none⟩ = false := by
  refine ⟨?_, Joins.unfrozen_of_block h.hb _⟩
  rw [Joins.cell_of_block h.hb, List.getElem?_toArray]
  have : k < vs.length := by rw [h.hl]; exact hk
  simp [List.getD, this]
/-- A field that is no list is set. -/
theorem BkO.set {W : World} {B bk : Nat} {vs : List Value} {fs : List BkF} {sn : List (Nat × Obj)} (h : BkO W B bk vs fs sn) (k : Nat) (v : Value) (hk : ∀ f ∈ fs, f.k ≠ k) : BkO (W.setCell ⟨bk, k, none⟩ v) B bk (vs.set k v) fs sn := by
  have e : ∀ f ∈ fs, (vs.set k v).getD f.k default = vs.getD f.k default := fun f hf => by
    simp only [List.getD]
    rw [List.getElem?_set_ne (fun q => hk f hf q.symm)]
  have g := grT_set W bk k v
  obtain ⟨l1, l2, l3⟩ := h.lt
  have nb : ∀ f ∈ fs, ∀ b, (vs.getD f.k default).ownBlock = some b → b ≠ bk := fun f hf b q z => by
    subst z
    exact ty_apart (h.own f hf).1 h.hb (fun z => (h.own f hf).2.2 z.symm) q
  refine ⟨by rw [Joins.block_setCell (i := k) h.hb, List.setIfInBounds_toArray], by rw [List.length_set]; exact h.hl, fun f hf => ?_, ?_, fun p hp => ?_⟩
  · rw [e f hf]
    exact ⟨own_keep (h.own f hf).1 (fun b q => g.block _ (l2 f hf b q) (by intro z; injection z with z; exact nb f hf b q z)), (h.own f hf).2⟩
  · refine h.ap.imp_of_mem ?_
    intro f g' hf hg' q
    rw [e f hf, e g' hg']
    exact q
  · refine ⟨(g.block _ (l3 p hp) (by intro z; injection z with z; exact (h.st p hp).2.1 z)).trans (h.st p hp).1, (h.st p hp).2.1, fun f hf => ?_⟩
    rw [e f hf]
    exact (h.st p hp).2.2 f hf
/-- A list grows, and its field is set. -/
theorem BkO.app {W W' : World} {B bk : Nat} {vs : List Value} {f : BkF} {fa fb : List BkF} {sn : List (Nat × Obj)} {v' : Value} {m : Nat} {us : List Value} (h : BkO W B bk vs (fa ++ f :: fb) sn) (o : W'.ownsRow B f.T f.s v' (f.n + m) (f.xs ++ us)) (g : W.grownBy W' (vs.getD f.k default).ownBlock) (hb : v'.ownBlock = (vs.getD f.k default).ownBlock ∨ v'.ownBlock = some W.heap.size) :
    BkO (W'.setCell ⟨bk, f.k, none⟩ v') B bk (vs.set f.k v') (fa ++ ⟨f.k, f.T, f.s, f.n + m, f.xs ++ us⟩ :: fb) sn := by
  obtain ⟨l1, l2, l3⟩ := h.lt
  have mf : f ∈ fa ++ f :: fb := List.mem_append.2 (.inr (List.mem_cons_self ..))
  have of := h.own f mf
  have ap := List.pairwise_append.1 h.ap
  have ap2 := List.pairwise_cons.1 ap.2.1
  have sep : ∀ x ∈ fa ++ fb, x ∈ fa ++ f :: fb ∧ x.k ≠ f.k ∧ ((vs.getD x.k default).ownBlock = none ∨ (vs.getD x.k default).ownBlock ≠ (vs.getD f.k default).ownBlock) := fun x hx => by
    rcases List.mem_append.1 hx with hx | hx
    · have q := ap.2.2 x hx f (List.mem_cons_self ..)
      exact ⟨List.mem_append.2 (.inl hx), q.1, q.2⟩
    · have q := ap2.1 x hx
      refine ⟨List.mem_append.2 (.inr (List.mem_cons_of_mem _ hx)), q.1.symm, ?_⟩
      rcases q.2 with z | z
      · cases y : (vs.getD x.k default).ownBlock with
        | none => exact .inl rfl
        | some b => exact .inr (by rw [z]; simp)
      · exact .inr z.symm
  have e : ∀ x ∈ fa ++ fb, (vs.set f.k v').getD x.k default = vs.getD x.k default := fun x hx => by
    simp only [List.getD]
    rw [List.getElem?_set_ne (sep x hx).2.1.symm]
  have ef : (vs.set f.k v').getD f.k default = v' := by
    have : f.k < vs.length := by rw [h.hl]; exact of.2.1
    simp [List.getD, this]
  have nbf : v'.ownBlock ≠ some bk := by
    intro z
    rcases hb with q | q
    · rw [z] at q
      exact ty_apart of.1 h.hb (fun z => of.2.2 z.symm) q.symm
    · rw [z] at q; injection q with q; omega
  have nb0 : (vs.getD f.k default).ownBlock ≠ some bk := fun z => ty_apart of.1 h.hb (fun z => of.2.2 z.symm) z
  have hb1 : W'.heap[bk]? = some (.cells vs.toArray 30) := (g.block _ l1 (fun z => nb0 z.symm)).trans h.hb
  have gs := grT_set W' bk f.k v'
  have kp : ∀ b, b < W.heap.size → (vs.getD f.k default).ownBlock ≠ some b → b ≠ bk → (W'.setCell ⟨bk, f.k, none⟩ v').heap[b]? = W.heap[b]? := fun b h1 h2 h3 => (gs.block b (Nat.lt_of_lt_of_le h1 g.size) (by intro z; injection z with z; exact h3 z)).trans (g.block b h1 (fun z => h2 z.symm))
  have nbx : ∀ x ∈ fa ++ fb, ∀ b, (vs.getD x.k default).ownBlock = some b → b ≠ bk ∧ (vs.getD f.k default).ownBlock ≠ some b := fun x hx b q => by
    obtain ⟨m1, m2, m3⟩ := sep x hx
    refine ⟨fun z => ?_, fun z => ?_⟩
    · subst z
      exact ty_apart (h.own x m1).1 h.hb (fun z => (h.own x m1).2.2 z.symm) q
    · rcases m3 with y | y
      · rw [q] at y; cases y
      · exact y (q.trans z.symm)
  have apv : ∀ x ∈ fa ++ fb, (vs.getD x.k default).ownBlock = none ∨ (vs.getD x.k default).ownBlock ≠ v'.ownBlock := fun x hx => by
    cases y : (vs.getD x.k default).ownBlock with
    | none => exact .inl rfl
    | some b =>
      refine .inr fun z => ?_
      rcases hb with q | q
      · exact (nbx x hx b y).2 (q.symm.trans z.symm)
      · rw [q] at z; injection z with z; have := l2 x (sep x hx).1 b y; omega
  have mem : ∀ x ∈ fa ++ ⟨f.k, f.T, f.s, f.n + m, f.xs ++ us⟩ :: fb, x = ⟨f.k, f.T, f.s, f.n + m, f.xs ++ us⟩ ∨ x ∈ fa ++ fb := fun x hx => by
    rcases List.mem_append.1 hx with q | q
    · exact .inr (List.mem_append.2 (.inl q))
    · rcases List.mem_cons.1 q with q | q
      · exact .inl q
      · exact .inr (List.mem_append.2 (.inr q))
  refine ⟨by rw [Joins.block_setCell (i := f.k) hb1, List.setIfInBounds_toArray], by rw [List.length_set]; exact h.hl, fun x hx => ?_, ?_, fun p hp => ?_⟩
  · rcases mem x hx with q | q
    · subst q
      simp only
      rw [ef]
      exact ⟨own_keep o (fun b z => gs.block b (by obtain ⟨cur, hc⟩ := own_blk o z; exact blk_lt hc) (by intro y; injection y with y; subst y; exact nbf z)), of.2⟩
    · rw [e x q]
      have m1 := (sep x q).1
      exact ⟨own_keep (h.own x m1).1 (fun b z => kp b (l2 x m1 b z) (nbx x q b z).2 (nbx x q b z).1), (h.own x m1).2⟩
  · refine List.pairwise_append.2 ⟨?_, List.pairwise_cons.2 ⟨fun x hx => ?_, ?_⟩, fun x hx y hy => ?_⟩
    · refine ap.1.imp_of_mem ?_
      intro a b ha hb' q
      rw [e a (List.mem_append.2 (.inl ha)), e b (List.mem_append.2 (.inl hb'))]
      exact q
    · have hx' : x ∈ fa ++ fb := List.mem_append.2 (.inr hx)
      simp only
      rw [ef, e x hx']
      refine ⟨(sep x hx').2.1.symm, ?_⟩
      rcases apv x hx' with z | z
      · cases y : v'.ownBlock with
        | none => exact .inl rfl
        | some b => exact .inr (by rw [z]; simp)
      · exact .inr z.symm
    · refine ap2.2.imp_of_mem ?_
      intro a b ha hb' q
      rw [e a (List.mem_append.2 (.inr ha)), e b (List.mem_append.2 (.inr hb'))]
      exact q
    · have hx' : x ∈ fa ++ fb := List.mem_append.2 (.inl hx)
      rcases List.mem_cons.1 hy with q | q
      · subst q
        simp only
        rw [ef, e x hx']
        exact ⟨(sep x hx').2.1, apv x hx'⟩
      · have hy' : y ∈ fa ++ fb := List.mem_append.2 (.inr q)
        rw [e x hx', e y hy']
        exact ap.2.2 x hx y (List.mem_cons_of_mem _ q)
  · obtain ⟨s1, s2, s3⟩ := h.st p hp
    refine ⟨(kp p.1 (l3 p hp) (s3 f mf) s2).trans s1, s2, fun x hx => ?_⟩
    rcases mem x hx with q | q
    · subst q
      simp only
      rw [ef]
      rcases hb with z | z
      · rw [z]; exact s3 f mf
      · rw [z]; intro y; injection y with y; have := l3 p hp; omega
    · rw [e x q]
      exact s3 x (sep x q).1
/-- A block that is none of the book's is left as it is. -/
theorem BkO.leave {W : World} {B bk z : Nat} {o : Obj} {vs : List Value} {fs : List BkF} {sn : List (Nat × Obj)} (h : BkO W B bk vs fs sn) (hz : W.heap[z]? = some o) (hf : BkO.Free bk vs fs sn z) : BkO W B bk vs fs ((z, o) :: sn) :=
  ⟨h.hb, h.hl, h.own, h.ap, fun p hp => by
    rcases List.mem_cons.1 hp with q | q
    · subst q; exact ⟨hz, hf.1, hf.2.1⟩
    · exact h.st p q⟩
end Go.Proofs.YtldplmchgmoopaaDoor

namespace Go.Proofs.YtldplmchgmoopaaDoor
open Go.RowKit
set_option linter.unusedVariables false
set_option linter.unusedSimpArgs false

end Go.Proofs.YtldplmchgmoopaaDoor

namespace Go.Proofs.YtldplmchgmoopaaDoor
open Go.RowKit
set_option linter.unusedVariables false
set_option linter.unusedSimpArgs false

/-- An append of a list, nil or not, to a list of one's own: its run. -/
theorem app_runD {T E : TypeId} {z : Value} {size bytes : Nat} (hT : Tryd.prog.underlying T = some (.slice E)) (hinfo : (Tryd.prog.info? E).map (fun i => (i.zero, i.size, i.bytes)) = some (some z, size, bytes)) (hzs : z.cells.size = size) (hsz : 0 < size)
    (w : World) (B : Nat) (hB : B ≤ w.heap.size) (ad : Option Addr) (n cap : Nat) (us : List Value) (hl : us.length = n * size) (hnews : ∀ x, ad = some x → ∀ j u, us[j]? = some u → w.cell? (x.add j) = some u) (hn0 : ad = none → n = 0 ∧ cap = 0) (one : ∀ u ∈ us, u.oneCell' = true)
    (v : Value) (m : Nat) (xs : List Value) (hown : w.ownsRow B E size v m xs) (h63 : m + n ≤ maxLen) (hby : (m + n) * bytes ≤ 140737488355328) :
    ∃ v' w', (∀ ty, (Builtin.append_ #[T, T] ty #[v, .slice ad n cap]).run Tryd.prog w = .ok v' w') ∧ w'.ownsRow B E size v' (m + n) (xs ++ us) ∧ w.grownBy w' v.ownBlock ∧ (v'.ownBlock = v.ownBlock ∨ v'.ownBlock = some w.heap.size) := by
  obtain ⟨i0, hi, hz0, hz1, hz2⟩ := info_parts hinfo
  cases ad with
  | none =>
    obtain ⟨rfl, rfl⟩ := hn0 rfl
    have : us = [] := List.length_eq_zero_iff.1 (by omega)
    subst this
    exact ⟨v, w, fun ty => run_append_owned_none (P := Tryd.prog) (w := w) B T ty E i0 size hT hi v m xs hown, by simpa using hown, ⟨rfl, rfl, rfl, Nat.le_refl _, fun _ _ _ => rfl⟩, .inl rfl⟩
  | some x1 =>
    obtain ⟨v', w', hr, h2, h3, _, h5⟩ := run_append_own_at (P := Tryd.prog) w B T T E i0 z size bytes hT hi hz0 hz1 hz2 hzs hsz v m xs hown x1 n cap us hl (hnews x1 rfl) one h63 hby hB
    exact ⟨v', w', fun ty => hr, h2, h3, h5⟩
theorem infoWd : (Tryd.prog.info? 49).map (fun i => (i.zero, i.size, i.bytes)) = some (some (.agg #[.string ⟨#[]⟩, .int .i64 0]), 2, 24) := by kernel_rfl
theorem infoLn : (Tryd.prog.info? 46).map (fun i => (i.zero, i.size, i.bytes)) = some (some (.agg #[.slice none 0 0, .int .i64 0]), 2, 32) := by kernel_rfl
/-- Lists of pairs of cells. -/
def prv {α : Type} (f g : α → Value) (l : List α) : List Value := l.flatMap fun x => [f x, g x]
theorem prv_len {α : Type} (f g : α → Value) (l : List α) : (prv f g l).length = l.length * 2 := by
  induction l with
  | nil => rfl
  | cons p r ih => simp [prv] at ih ⊢; omega
theorem prv_snoc {α : Type} (f g : α → Value) (l : List α) (x : α) : prv f g (l ++ [x]) = prv f g l ++ [f x, g x] := by simp [prv]
theorem prv_at {α : Type} (f g : α → Value) : ∀ (l : List α) (i : Nat) (h : i < l.length), (prv f g l)[i * 2]? = some (f l[i]) ∧ (prv f g l)[i * 2 + 1]? = some (g l[i])
  | [], i, h => by simp at h
  | x :: l, 0, h => ⟨rfl, rfl⟩
  | x :: l, i + 1, h => by
    have ih := prv_at f g l i (by simpa using h)
    have e : prv f g (x :: l) = f x :: g x :: prv f g l := rfl
    rw [e, show (i + 1) * 2 = i * 2 + 1 + 1 by omega]
    simpa using ih
abbrev Wp := ByteArray × Nat
def wdv (ws : List Wp) : List Value := prv (fun w => .string w.1) (fun w => .int .i64 (w.2 : Int)) ws
structure Lw where
  a : Option Addr
  n : Nat
  c : Nat
  ws : List Wp
  e : Nat
def Lw.lp (l : Lw) : Lp := (l.ws, l.e)
def Lw.val (l : Lw) : Value := .agg #[.slice l.a l.n l.c, .int .i64 (l.e : Int)]
def lnv (ls : List Lw) : List Value := prv (fun l => .slice l.a l.n l.c) (fun l => .int .i64 (l.e : Int)) ls
/-- Lines of one's own. -/
structure LnA (W : World) (B : Nat) (v : Value) (ls : List Lw) : Prop where
  own : W.ownsRow B 46 2 v ls.length (lnv ls)
  ok : ∀ l ∈ ls, W.ownsRow B 49 2 (.slice l.a l.n l.c) l.ws.length (wdv l.ws) ∧ l.n = l.ws.length
theorem LnA.below {W W' : World} {B : Nat} {v : Value} {ls : List Lw} (h : LnA W B v ls) (b : Below W.heap.size W W') : LnA W' B v ls :=
  ⟨own_back h.own b, fun q hq => ⟨own_back (h.ok q hq).1 b, (h.ok q hq).2⟩⟩
theorem LnA.nil (W : World) (B : Nat) : LnA W B (.slice none 0 0) [] := ⟨World.ownsRow_nil _ _ _ _, fun q h => by cases h⟩
theorem LnA.push {W W' : World} {B : Nat} {v v' : Value} {ls : List Lw} {l : Lw} (h : LnA W B v ls) (k : W.ownsRow B 49 2 (.slice l.a l.n l.c) l.ws.length (wdv l.ws)) (hn : l.n = l.ws.length) (o : W'.ownsRow B 46 2 v' (ls.length + 1) (lnv ls ++ [.slice l.a l.n l.c, .int .i64 (l.e : Int)])) (g : W.grownBy W' v.ownBlock) : LnA W' B v' (ls ++ [l]) := by
  refine ⟨by rw [List.length_append]; unfold lnv at o ⊢; rw [prv_snoc]; exact o, fun p hp => ?_⟩
  rcases List.mem_append.1 hp with hp | hp
  · exact ⟨(h.ok p hp).1.kept g (own_apart (h.ok p hp).1 h.own (by decide)), (h.ok p hp).2⟩
  · rw [List.mem_singleton.1 hp]
    exact ⟨k.kept g (own_apart k h.own (by decide)), hn⟩
/-- Words that can be read. -/
structure WdR (W : World) (a : Option Addr) (n : Nat) (ws : List Wp) : Prop where
  len : n = ws.length
  at_ : ∀ i, i < n → ∃ x, a = some ⟨x, 0, none⟩ ∧ x < W.heap.size ∧ W.cell? ⟨x, i * 2, none⟩ = some (.string (ws.getD i default).1) ∧ W.cell? ⟨x, i * 2 + 1, none⟩ = some (.int .i64 ((ws.getD i default).2 : Int))
theorem wdR_own {W : World} {B n c : Nat} {a : Option Addr} {ws : List Wp} (h : W.ownsRow B 49 2 (.slice a n c) ws.length (wdv ws)) (hn : n = ws.length) : WdR W a n ws := by
  refine ⟨hn, fun i hi => ?_⟩
  subst hn
  have h0 := h
  rcases h.2 with ⟨e, e0⟩ | ⟨g, cap, cur, e, _, hg, k1, k2, _⟩
  · omega
  · injection e with e1 e2 e3
    subst e1 e3
    obtain ⟨p, q⟩ := prv_at (fun w : Wp => .string w.1) (fun w => .int .i64 (w.2 : Int)) ws i hi
    have e : ws.getD i default = ws[i] := by simp [List.getD, hi]
    refine ⟨g, rfl, blk_lt hg, ?_, ?_⟩
    · rw [World.ownsRow.cellAt h0 (i * 2) (by omega), e]; exact p
    · rw [World.ownsRow.cellAt h0 (i * 2 + 1) (by omega), e]; exact q
theorem WdR.later {W W' : World} {a : Option Addr} {n : Nat} {ws : List Wp} (h : WdR W a n ws) (b : Below W.heap.size W W') : WdR W' a n ws :=
  ⟨h.len, fun i hi => by
    obtain ⟨x, e, hx, p, q⟩ := h.at_ i hi
    exact ⟨x, e, Nat.lt_of_lt_of_le hx b.size, (b.cell (p := ⟨x, _, none⟩) hx).trans p, (b.cell (p := ⟨x, _, none⟩) hx).trans q⟩⟩
/-- A line that is being made. -/
structure WdI (wo W : World) (g : Nat) (v : Value) (ws : List Wp) (e : Nat) : Prop where
  hg : W.heap[g]? = some (.cells #[v, .int .i64 (e : Int)] 46)
  own : W.ownsRow (g + 1) 49 2 v ws.length (wdv ws)
  bel : Below g wo W
theorem WdI.below {wo W W' : World} {g e : Nat} {v : Value} {ws : List Wp} (h : WdI wo W g v ws e) (b : Below W.heap.size W W') : WdI wo W' g v ws e :=
  ⟨(b.block g (blk_lt h.hg)).trans h.hg, own_back h.own b, h.bel.trans (b.mono (Nat.le_of_lt (blk_lt h.hg)))⟩
theorem WdI.lt {wo W : World} {g e : Nat} {v : Value} {ws : List Wp} (h : WdI wo W g v ws e) : g + 1 ≤ W.heap.size := blk_lt h.hg
theorem WdI.fld {wo ws' W : World} {g e : Nat} {v : Value} {ws : List Wp} (h : WdI wo ws' g v ws e) (k : ws'.grownBy W v.ownBlock) : W.cell? ⟨g, 0, none⟩ = some v ∧ W.frozen? ⟨g, 0, none⟩ = false := by
  have nT : v.ownBlock ≠ some g := fun q => by have := (h.own.lt g q).1; omega
  obtain ⟨a, _, b, _⟩ := box_all2 ((k.block g (blk_lt h.hg) (fun q => nT q.symm)).trans h.hg)
  exact ⟨a, b⟩
theorem WdI.word {wo ws' W : World} {g e : Nat} {v v' : Value} {ws us : List Wp} (h : WdI wo ws' g v ws e) (o : W.ownsRow (g + 1) 49 2 v' us.length (wdv us)) (k : ws'.grownBy W v.ownBlock) : WdI wo (W.setCell ⟨g, 0, none⟩ v') g v' us e := by
  have nT : v.ownBlock ≠ some g := fun q => by have := (h.own.lt g q).1; omega
  have nT' : v'.ownBlock ≠ some g := fun q => by have := (o.lt g q).1; omega
  have hT' := (k.block g (blk_lt h.hg) (fun q => nT q.symm)).trans h.hg
  have gs := grT_set W g 0 v'
  refine ⟨Joins.block_setCell (i := 0) hT' v', own_keep o (fun b q => gs.block b (by obtain ⟨cur, r⟩ := own_blk o q; exact blk_lt r) (by intro r; injection r with r; exact nT' (r ▸ q))), ?_⟩
  exact (h.bel.grown k (by have := blk_lt h.hg; omega) (fun j q => by have := (h.own.lt j q).1; omega)).setCell (p := ⟨g, 0, none⟩) (Nat.le_refl _) _
theorem two_new2 (W : World) (u v : Value) (E : TypeId) : (W.alloc (.cells #[u, v] E)).heap[W.heap.size]? = some (.cells #[u, v] E) := World.alloc_heap_new _ _
end Go.Proofs.YtldplmchgmoopaaDoor
