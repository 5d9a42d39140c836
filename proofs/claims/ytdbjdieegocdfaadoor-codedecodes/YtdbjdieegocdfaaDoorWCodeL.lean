/-
  THE STATEMENT CodeOdd.
-/
import Derived.Test.YtdbjdieegocdfaaDoorWCodeJ
import Derived.Deep.RegionLaw
import Derived.Deep.AppendLies
namespace Go.Proofs.YtdbjdieegocdfaaDoor
open Go.RowKit
set_option linter.unusedVariables false
set_option linter.unusedSimpArgs false

theorem heap_new1 (w : World) (o1 o2 : Obj) : ((w.alloc o1).alloc o2).heap[w.heap.size + 1]? = some o2 := by simpa using heap_new (w.alloc o1) o2
theorem heap_old1 (w : World) (o1 o2 : Obj) : ((w.alloc o1).alloc o2).heap[w.heap.size]? = some o1 := (Below.heap_alloc _ _ _ (by simp)).trans (heap_new w o1)
theorem own_empty {W : World} {N0 B : Nat} (hB : B ≤ N0) (h : W.heap[N0]? = some (.cells #[] 24)) : OwI W B (.slice (some ⟨N0, 0, none⟩) 0 0) [] :=
  ⟨rfl, .inr ⟨N0, 0, #[], rfl, hB, h, Nat.le_refl _, by unfold maxLen; omega, rfl, rfl⟩⟩
theorem li_box {W : World} {N1 : Nat} {x y z : Int} (h : W.heap[N1]? = some (.cells #[.int .i64 x, .int .i64 y, .int .i64 z] 24)) : LI W (some ⟨N1, 0, none⟩) 1 [⟨x, y, z⟩] := by
  refine ⟨rfl, by omega, .inr ⟨N1, 0, rfl, (Array.getElem?_eq_some_iff.1 h).1, fun i hi => ?_⟩⟩
  obtain rfl : i = 0 := by omega
  obtain ⟨c0, c1, c2⟩ := box3 h
  exact ⟨c0, c1, c2⟩
theorem odd_grow {w3 W w' : World} {v : Value} {l : List In} (g : W.grownBy w' v.ownBlock) (b : Below w3.heap.size w3 W) (hs : w3.heap.size ≤ W.heap.size) (o : OwI W w3.heap.size v l) : Below w3.heap.size w3 w' := b.grown g hs (fun k e => (o.lt k e).1)
theorem LI.from_ {w : World} {a : Option Addr} {n cap : Nat} {l : List In} (h : LI w a n l) (t : Nat) (ht : t ≤ n) (hc : n ≤ cap) : LI w (if cap = t then a else Option.map (fun x => x.add (t * 3)) a) (n - t) (l.drop t) := by
  obtain ⟨h1, h2, h3⟩ := h
  refine ⟨by simp; omega, by omega, ?_⟩
  by_cases hn : n - t = 0
  · exact .inl hn
  · rcases h3 with h3 | ⟨b, o, rfl, hb, hc'⟩
    · omega
    · rw [if_neg (by omega)]
      refine .inr ⟨b, o + t * 3, by simp [Addr.add_mid], hb, fun i hi => ?_⟩
      have := hc' (t + i) (by omega)
      rw [show o + (t + i) * 3 = o + t * 3 + i * 3 by omega] at this
      have e : (l.drop t).getD i default = l.getD (t + i) default := by simp [List.getD, List.getElem?_drop]
      rw [e]
      exact this
theorem li_none {a : Option Addr} {n cap t : Nat} (h : a = none → n = 0 ∧ cap = 0) (ht : t ≤ n) (hc : n ≤ cap) : (if cap = t then a else Option.map (fun x => x.add (t * 3)) a) = none → n - t = 0 ∧ cap - t = 0 := by
  intro e
  by_cases q : cap = t
  · omega
  · rw [if_neg q] at e
    cases a with
    | none => have := h rfl; omega
    | some x => cases e
/-- 'append(own, list...)' in a region that draws. -/
theorem step_joinI {ops : Array Oper} {o : Oper} {a : Act} {K : Act → World → Prop} {Q : Exit → Act → World → Prop} {E : Prop} (w : World) (hgd : o.guard = none) (s x : Operand)
    (ho : o.op = .call { callee := .builtin .append, args := #[s, x], argTypes := #[22, 22] }) (B : Nat) (v : Value) (l : List In) (hs : a.eval s = v)
    (ad : Option Addr) (m c : Nat) (l2 : List In) (hx : a.eval x = .slice ad m c) (hown : OwI w B v l) (hli : LI w ad m l2) (h0 : ad = none → m = 0 ∧ c = 0) (hl : l.length + m ≤ 5864062014805) (hb : B ≤ w.heap.size)
    (h : ∀ v' w', OwI w' B v' (l ++ l2) → w.grownBy w' v.ownBlock → K (a.put o.dst v') w') :
    if Region.wanted o (yielded ops a.tmps) = true then Oper.wp Tryd.prog o a w K Q else E := by
  rw [if_pos (by simp [Region.wanted, hgd])]
  obtain ⟨i0, hi, hz0, hz1, hz2⟩ := info_parts infoI
  have hlen := hli.1
  rcases ad with _ | ad
  · obtain ⟨rfl, rfl⟩ := h0 rfl
    have : l2 = [] := List.length_eq_zero_iff.1 hlen
    subst this
    have hrun := run_append_owned_none (P := Tryd.prog) (w := w) B 22 o.type 24 i0 3 Tryd.underlying22 hi v _ (ics l) hown
    unfold Oper.wp execOp
    simp only [ho, resolve, invoke, builtin, Sem.run_bind, Sem.run_pure, Result.andThen_ok, List.map_toArray, List.map_cons, List.map_nil, hs, hx, hrun]
    exact h v w (by simpa using hown) ⟨rfl, rfl, rfl, Nat.le_refl _, fun _ _ _ => rfl⟩
  · have hnews : ∀ j u, (ics l2)[j]? = some u → w.cell? (ad.add j) = some u := by
      intro j u hj
      have hjl : j < l2.length * 3 := by have := (List.getElem?_eq_some_iff.1 hj).1; rw [ics_len] at this; exact this
      rcases hli.2.2 with q | ⟨b, o', e, hb', hc⟩
      · omega
      · injection e with e
        subst e
        rw [Go.Addr.add_lit]
        obtain ⟨i, k, hk, hi3, rfl⟩ : ∃ i k, i < l2.length ∧ k < 3 ∧ j = i * 3 + k := ⟨j / 3, j % 3, by omega, by omega, by omega⟩
        have h3 := ics_at l2 i hk k hi3
        rw [hj] at h3
        obtain ⟨c0, c1, c2⟩ := hc i (by omega)
        rw [h3, ← Nat.add_assoc]
        have hh : k = 0 ∨ k = 1 ∨ k = 2 := by omega
        rcases hh with rfl | rfl | rfl
        · exact c0
        · exact c1
        · exact c2
    have h1 : ∀ u ∈ ics l2, u.oneCell' = true := by
      intro u hu
      obtain ⟨r, _, hr⟩ := List.mem_flatMap.1 hu
      simp [In.cells] at hr
      rcases hr with rfl | rfl | rfl <;> rfl
    obtain ⟨v', w', hr, h2, h3, h4, h5⟩ := run_append_own_at (P := Tryd.prog) w B 22 o.type 24 i0 _ 3 24 Tryd.underlying22 hi hz0 hz1 hz2 rfl (by decide) v _ (ics l) hown ad m c (ics l2) (by rw [ics_len, hlen]) hnews h1 (by unfold maxLen; omega) (by omega) hb
    unfold Oper.wp execOp
    simp only [ho, resolve, invoke, builtin, Sem.run_bind, Sem.run_pure, Result.andThen_ok, List.map_toArray, List.map_cons, List.map_nil, hs, hx, hr]
    refine h v' w' ?_ h3
    unfold OwI
    rw [List.length_append, ics_app, hlen]
    exact h2
end Go.Proofs.YtdbjdieegocdfaaDoor
