import Derived.Test.YtjbbbejadhojlaaDoorXAC
import Derived.Laws.AppendOwnNone
namespace Go.Proofs.YtjbbbejadhojlaaDoor
open Go.RowKit
set_option linter.unusedVariables false
set_option linter.unusedSimpArgs false
def zcs (l : List Int) : List Value := l.map (fun n => .int .i64 n)
theorem zcs_len (l : List Int) : (zcs l).length = l.length := by simp [zcs]
theorem zcs_append (a b : List Int) : zcs (a ++ b) = zcs a ++ zcs b := by simp [zcs]
theorem zcs_one (l : List Int) : ∀ u ∈ zcs l, u.oneCell' = true := by
  intro u hu
  simp only [zcs, List.mem_map] at hu
  obtain ⟨n, _, rfl⟩ := hu
  rfl
theorem infoZ : (Tryd.prog.info? 3).map (fun i => (i.zero, i.size, i.bytes)) = some (some (.int .i64 0), 1, 8) := by kernel_rfl
/-- A row of ints that lies in a block of its own. -/
def OwZ (w : World) (B : Nat) (v : Value) (l : List Int) : Prop := w.ownsRow B 3 1 v l.length (zcs l)
theorem OwZ.nil (w : World) (B : Nat) : OwZ w B (.slice none 0 0) [] := World.ownsRow_nil _ _ _ _
theorem OwZ.made (w : World) (B cap : Nat) (cur : Array Value) (hb : B ≤ w.heap.size) (hm : cap ≤ maxLen) (hs : cur.size = cap) : OwZ (w.alloc (.cells cur 3)) B (.slice (some ⟨w.heap.size, 0, none⟩) 0 cap) [] := World.ownsRow_made w cur cap hb hm (by omega)
theorem OwZ.form {w : World} {B : Nat} {v : Value} {l : List Int} (h : OwZ w B v l) : ∃ a cap, v = .slice a l.length cap ∧ l.length ≤ cap ∧ (l ≠ [] → ∃ g, a = some ⟨g, 0, none⟩ ∧ B ≤ g ∧ g < w.heap.size) := by
  rcases h.2 with ⟨rfl, h0⟩ | ⟨g, cap, cur, rfl, e2, e3, e4, _⟩
  · have : l = [] := List.length_eq_zero_iff.1 h0
    subst this
    exact ⟨none, 0, rfl, Nat.le_refl _, fun q => absurd rfl q⟩
  · exact ⟨_, cap, rfl, e4, fun _ => ⟨g, rfl, e2, (Array.getElem?_eq_some_iff.1 e3).1⟩⟩
theorem OwZ.cell {w : World} {B g cap n : Nat} {l : List Int} (h : OwZ w B (.slice (some ⟨g, 0, none⟩) n cap) l) {i : Nat} (hi : i < l.length) : w.cell? ⟨g, i, none⟩ = some (.int .i64 (l.getD i 0)) := by
  rcases h.2 with ⟨e, _⟩ | ⟨g', cap', cur, e, e2, e3, e4, e5, e6, e7⟩
  · injection e with e; cases e
  · injection e with e _ _
    injection e with e
    injection e with e
    subst e
    have q : (zcs l)[i]? = some (.int .i64 (l.getD i 0)) := by simp [zcs, List.getD, hi]
    rw [← e7, List.getElem?_take_of_lt (by omega)] at q
    simp only [World.cell?, e3]
    simpa using q
theorem OwZ.frozen {w : World} {B g cap n : Nat} {l : List Int} (h : OwZ w B (.slice (some ⟨g, 0, none⟩) n cap) l) (i : Nat) : w.frozen? ⟨g, i, none⟩ = false := by
  rcases h.2 with ⟨e, _⟩ | ⟨g', cap', cur, e, e2, e3, e4, e5, e6, e7⟩
  · injection e with e; cases e
  · injection e with e _ _
    injection e with e
    injection e with e
    subst e
    simp [World.frozen?, e3]
/-- Cut to its first k. -/
theorem OwZ.cut {w : World} {B g cap n : Nat} {l : List Int} (h : OwZ w B (.slice (some ⟨g, 0, none⟩) n cap) l) {k : Nat} (hk : k ≤ l.length) : OwZ w B (.slice (some ⟨g, 0, none⟩) k cap) (l.take k) := by
  rcases h.2 with ⟨e, _⟩ | ⟨g', cap', cur, e, e2, e3, e4, e5, e6, e7⟩
  · injection e with e; cases e
  · injection e with e en ec
    injection e with e
    injection e with e
    subst e ec
    have hl : (l.take k).length = k := by simp; omega
    refine ⟨by rw [zcs_len]; omega, .inr ⟨g, cap, cur, by rw [hl], e2, e3, by omega, e5, e6, ?_⟩⟩
    rw [hl]
    have : zcs (l.take k) = (zcs l).take k := by simp [zcs]
    rw [this, ← e7, List.take_take]
    congr 1
    omega
theorem OwZ.later {w w' : World} {B C : Nat} {v : Value} {l : List Int} (h : OwZ w B v l) (b : Below w.heap.size w w') (hC : C ≤ B) : OwZ w' C v l := by
  refine ⟨h.1, ?_⟩
  rcases h.2 with h | ⟨g, cap, cur, rfl, e2, e3, e4⟩
  · exact .inl h
  · exact .inr ⟨g, cap, cur, rfl, by omega, (b.block g (Array.getElem?_eq_some_iff.1 e3).1).trans e3, e4⟩
theorem OwZ.lat {w w' : World} {B : Nat} {v : Value} {l : List Int} (h : OwZ w B v l) (b : Below w.heap.size w w') : OwZ w' B v l := h.later b (Nat.le_refl _)
theorem OwZ.grown {w w' : World} {B : Nat} {v : Value} {l : List Int} {r : Option Nat} (h : OwZ w B v l) (g : w.grownBy w' r) (hr : v.ownBlock = none ∨ v.ownBlock ≠ r) : OwZ w' B v l := World.ownsRow.kept h g hr
theorem OwZ.blk {w w' : World} {B : Nat} {v : Value} {l : List Int} (h : OwZ w B v l) (hb : ∀ g, v.ownBlock = some g → w'.heap[g]? = w.heap[g]?) : OwZ w' B v l := by
  refine ⟨h.1, ?_⟩
  rcases h.2 with hn | ⟨g, cap, cur, rfl, hB, hg, rest⟩
  · exact .inl hn
  · exact .inr ⟨g, cap, cur, rfl, hB, by rw [hb g rfl]; exact hg, rest⟩
theorem OwZ.own {w : World} {B : Nat} {v : Value} {l : List Int} (h : OwZ w B v l) : ∀ g, v.ownBlock = some g → B ≤ g ∧ g < w.heap.size := World.ownsRow.lt h
/-- 'l = append(l, more...)'. -/
theorem wp_ints {ops : Array Oper} {rest : List Oper} {o : Oper} {a : Act} {Q : Exit → Act → World → Prop} (w : World) (hgd : o.guard = none) (s y : Operand)
    (ho : o.op = .call { callee := .builtin .append, args := #[s, y], argTypes := #[23, 23] }) (B C : Nat) (v u : Value) (l k : List Int) (hs : a.eval s = v) (hy : a.eval y = u)
    (hv : OwZ w B v l) (hu : OwZ w C u k) (hl : l.length + k.length ≤ 4398046511000) (hb : B ≤ w.heap.size)
    (h : ∀ v' w', OwZ w' B v' (l ++ k) → w.grownBy w' v.ownBlock → wpList Tryd.prog ops Q rest (a.put o.dst v') w') : wpList Tryd.prog ops Q (o :: rest) a w := by
  obtain ⟨i0, hi, hz0, hz1, hz2⟩ := info_parts infoZ
  have hlen : k.length * 1 = (zcs k).length := by rw [zcs_len]; omega
  rcases hu.2 with ⟨rfl, h0⟩ | ⟨g, cap, cur, rfl, e2, e3, e4, e5, e6, e7⟩
  · have : k = [] := List.length_eq_zero_iff.1 h0
    subst this
    exact wpList_append_own_none hgd s y 23 ho B 3 i0 1 Tryd.underlying23 hi v l.length (zcs l) hs hv hy (h v w (by rw [List.append_nil]; exact hv) ⟨rfl, rfl, rfl, Nat.le_refl _, fun _ _ _ => rfl⟩)
  · refine wpList_append_own _ hgd s y 23 ho B 3 i0 (.int .i64 0) 1 8 Tryd.underlying23 hi hz0 hz1 hz2 rfl (by decide) v _ _ hs hv ⟨g, 0, none⟩ k.length cap (zcs k) hy hlen.symm ?_ (zcs_one k) (by unfold maxLen; omega) (by omega) hb ?_
    · intro j u' hj
      have hj' : j < k.length * 1 := by rw [hlen]; exact (List.getElem?_eq_some_iff.1 hj).1
      rw [Addr.add_lit, Nat.zero_add]
      simp only [World.cell?, e3]
      rw [← e7, List.getElem?_take_of_lt hj'] at hj
      simpa using hj
    · intro v' w' h1 h2 _
      refine h v' w' ?_ h2
      unfold OwZ
      rw [zcs_append, List.length_append]
      exact h1
theorem OwZ.lit (w : World) (B : Nat) (x : Int) (hb : B ≤ w.heap.size) : OwZ (w.alloc (.cells #[.int .i64 x] 3)) B (.slice (some ⟨w.heap.size, 0, none⟩) 1 1) [x] :=
  ⟨rfl, .inr ⟨w.heap.size, 1, #[.int .i64 x], rfl, hb, heapN _ _, Nat.le_refl _, by unfold maxLen; omega, rfl, rfl⟩⟩
theorem own_blkG {w w' : World} {B : Nat} {t : TypeId} {k : Nat} {v : Value} {n : Nat} {xs : List Value} (h : w.ownsRow B t k v n xs) (hb : ∀ g, v.ownBlock = some g → w'.heap[g]? = w.heap[g]?) : w'.ownsRow B t k v n xs := by
  refine ⟨h.1, ?_⟩
  rcases h.2 with hn | ⟨g, cap, cur, rfl, hB, hg, rest⟩
  · exact .inl hn
  · exact .inr ⟨g, cap, cur, rfl, hB, by rw [hb g rfl]; exact hg, rest⟩
/-- Rows and boxes of unlike types lie in unlike blocks. -/
theorem own_neB {w : World} {B : Nat} {t u : TypeId} {k : Nat} {v : Value} {n : Nat} {xs : List Value} (h : w.ownsRow B t k v n xs) {b : Nat} {cs : Array Value} (hb : BkP w b cs u) (ne : t ≠ u) : v.ownBlock ≠ some b := by
  intro e
  rcases h.2 with ⟨rfl, _⟩ | ⟨g, cap, cur, rfl, hB, hg, rest⟩
  · cases e
  · simp only [Value.ownBlock, Option.some.injEq] at e
    subst e
    exact bk_ne (W := w) hg hb ne rfl
theorem own_neO {w : World} {B C : Nat} {t u : TypeId} {k j : Nat} {v v' : Value} {n m : Nat} {xs ys : List Value} (h : w.ownsRow B t k v n xs) (h' : w.ownsRow C u j v' m ys) (ne : t ≠ u) : v.ownBlock = none ∨ v.ownBlock ≠ v'.ownBlock := by
  rcases h'.2 with ⟨rfl, _⟩ | ⟨g, cap, cur, rfl, hB, hg, rest⟩
  · cases e : v.ownBlock with
    | none => exact .inl rfl
    | some x => exact .inr (by simp [Value.ownBlock])
  · exact .inr (own_neB h (b := g) (cs := cur) hg ne)
end Go.Proofs.YtjbbbejadhojlaaDoor
