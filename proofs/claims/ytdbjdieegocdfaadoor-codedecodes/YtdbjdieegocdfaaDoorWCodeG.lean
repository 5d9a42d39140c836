/-
  WALKS: plain, good; joins of rows of instructions.
-/
import Derived.Test.YtdbjdieegocdfaaDoorWCodeF
namespace Go.Proofs.YtdbjdieegocdfaaDoor
open Go.RowKit
set_option linter.unusedVariables false
set_option linter.unusedSimpArgs false

theorem own_li {w : World} {B : Nat} {v : Value} {l : List In} (h : OwI w B v l) (hl : l.length ≤ 5864062014805) : ∃ a cap, v = .slice a l.length cap ∧ LI w a l.length l ∧ (a = none → l.length = 0 ∧ cap = 0) ∧ l.length ≤ cap := by
  obtain ⟨h1, h2⟩ := h
  rcases h2 with ⟨rfl, h2⟩ | ⟨g, cap, cur, rfl, hB, hg, hn, hm, hs, ht⟩
  · exact ⟨none, 0, by rw [h2], ⟨rfl, hl, .inl h2⟩, fun _ => ⟨h2, rfl⟩, by omega⟩
  · refine ⟨_, cap, rfl, ⟨rfl, hl, .inr ⟨g, 0, rfl, (Array.getElem?_eq_some_iff.1 hg).1, fun i hi => ?_⟩⟩, (fun e => by cases e), hn⟩
    have key : ∀ j, j < 3 → w.cell? ⟨g, i * 3 + j, none⟩ = (l.getD i default).cells[j]? := fun j hj => by
      have e : w.cell? ⟨g, i * 3 + j, none⟩ = cur[i * 3 + j]? := by simp [World.cell?, hg]
      rw [e, ← ics_at l i hi j hj, ← ht, List.getElem?_take_of_lt (by omega)]
      simp
    rw [Nat.zero_add]
    exact ⟨key 0 (by omega), key 1 (by omega), key 2 (by omega)⟩
theorem own_litI (w : World) (B : Nat) (hB : B ≤ w.heap.size) (l : List In) (hl : l.length ≤ 1000) (C : Array Value) (hC : C = (ics l).toArray) : OwI (w.alloc (.cells C 24)) B (.slice (some ⟨w.heap.size, 0, none⟩) l.length l.length) l := by
  subst hC
  refine ⟨ics_len l, .inr ⟨w.heap.size, l.length, (ics l).toArray, rfl, hB, heap_new w _, Nat.le_refl _, by unfold maxLen; omega, by simp [ics_len], ?_⟩⟩
  rw [List.take_of_length_le]
  simp [ics_len]
/-- 'append(own, list...)'. -/
theorem wp_joinI {ops : Array Oper} {rest : List Oper} {o : Oper} {a : Act} {Q : Exit → Act → World → Prop} (w : World) (hgd : o.guard = none) (s x : Operand)
    (ho : o.op = .call { callee := .builtin .append, args := #[s, x], argTypes := #[22, 22] }) (B : Nat) (v : Value) (l : List In) (hs : a.eval s = v)
    (ad : Option Addr) (m c : Nat) (l2 : List In) (hx : a.eval x = .slice ad m c) (hown : OwI w B v l) (hli : LI w ad m l2) (h0 : ad = none → m = 0 ∧ c = 0) (hl : l.length + m ≤ 5864062014805) (hb : B ≤ w.heap.size)
    (h : ∀ v' w', OwI w' B v' (l ++ l2) → w.grownBy w' v.ownBlock → wpList Tryd.prog ops Q rest (a.put o.dst v') w') :
    wpList Tryd.prog ops Q (o :: rest) a w := by
  obtain ⟨i0, hi, hz0, hz1, hz2⟩ := info_parts infoI
  have hlen := hli.1
  rcases ad with _ | ad
  · obtain ⟨rfl, rfl⟩ := h0 rfl
    have : l2 = [] := List.length_eq_zero_iff.1 hlen
    subst this
    refine wpList_append_own_none hgd s x 22 ho B 24 i0 3 Tryd.underlying22 hi v _ (ics l) hs hown hx ?_
    exact h v w (by simpa using hown) ⟨rfl, rfl, rfl, Nat.le_refl _, fun _ _ _ => rfl⟩
  · refine wpList_append_own _ hgd s x 22 ho B 24 i0 _ 3 24 Tryd.underlying22 hi hz0 hz1 hz2 rfl (by decide) v _ _ hs hown ad m c (ics l2) hx (by rw [ics_len, hlen]) ?_ ?_ (by unfold maxLen; omega) (by omega) hb ?_
    · intro j u hj
      have hjl : j < l2.length * 3 := by have := (List.getElem?_eq_some_iff.1 hj).1; rw [ics_len] at this; exact this
      rcases hli.2.2 with q | ⟨b, o', e, hb', hc⟩
      · omega
      · injection e with e
        subst e
        rw [Go.Addr.add_lit]
        obtain ⟨i, k, hk, hi3, rfl⟩ : ∃ i k, i < l2.length ∧ k < 3 ∧ j = i * 3 + k := ⟨j / 3, j % 3, by omega, by omega, by omega⟩
        have h3 := ics_at l2 i hk k hi3
        rw [hj] at h3
        obtain ⟨c0, c1, c2⟩ := hc i (by omega)
        rw [h3, ← Nat.add_assoc]
        have hh : k = 0 ∨ k = 1 ∨ k = 2 := by omega
        rcases hh with rfl | rfl | rfl
        · exact c0
        · exact c1
        · exact c2
    · intro u hu
      obtain ⟨r, _, hr⟩ := List.mem_flatMap.1 hu
      simp [In.cells] at hr
      rcases hr with rfl | rfl | rfl <;> rfl
    · intro v' w' h1 h2 _
      refine h v' w' ?_ h2
      unfold OwI
      rw [List.length_append, ics_app, hlen]
      exact h1
def plL : List In := [⟨1, 16383, 0⟩, ⟨3, 63, 3660⟩, ⟨18, 4, 0⟩, ⟨27, 262143, 0⟩, ⟨28, 4095, 0⟩, ⟨5, 32767, 0⟩, ⟨0, 0, 0⟩]
theorem plL_ok : ∀ i ∈ plL, i.okP := by
  intro i hi
  simp only [plL, List.mem_cons, List.not_mem_nil, or_false] at hi
  rcases hi with rfl | rfl | rfl | rfl | rfl | rfl | rfl <;> (unfold In.okP; decide)
structure OwE (w : World) (l : List In) (e : Ending) (w' : World) : Prop where
  say : ∃ v', e = .returned v' ∧ OwI w' w.heap.size v' l
  bel : Below w.heap.size w w'
def gdL (l : List In) : List In := l.filter (fun i => decide i.okP)
theorem gdL_ok (l : List In) : ∀ i ∈ gdL l, i.okP := fun i hi => of_decide_eq_true (List.mem_filter.1 hi).2
theorem gdL_yes {l : List In} {i : In} (h : i.okP) : gdL (l ++ [i]) = gdL l ++ [i] := by simp [gdL, h]
theorem gdL_no {l : List In} {i : In} (h : ¬ i.okP) : gdL (l ++ [i]) = gdL l := by simp [gdL, h]
theorem gdL_len (l : List In) : (gdL l).length ≤ l.length := List.length_filter_le _ _
end Go.Proofs.YtdbjdieegocdfaaDoor
