/-
  WALK: intact; what a copy is, as a program.
-/
import Derived.Test.YteedkcmjhdabeaaDoorWImg7
import Derived.Test.YteedkcmjhdabeaaDoorWImg4b
namespace Go.Proofs.YteedkcmjhdabeaaDoor
open Go.RowKit
set_option linter.unusedVariables false
set_option linter.unusedSimpArgs false
theorem own_cellsP {W : World} {B g k m c : Nat} {T : TypeId} {n : Nat} {xs : List Value} (h : W.ownsRow B T k (.slice (some ⟨g, 0, none⟩) m c) n xs) (j : Nat) (u : Value) (hj : xs[j]? = some u) : W.cell? ⟨g, j, none⟩ = some u := by
  have := h.cells (g := g) rfl j u hj
  rw [Go.Addr.add_lit, Nat.zero_add] at this
  exact this
theorem own_capP {W : World} {B g k m c : Nat} {T : TypeId} {n : Nat} {xs : List Value} (h : W.ownsRow B T k (.slice (some ⟨g, 0, none⟩) m c) n xs) : n ≤ c ∧ c ≤ maxLen ∧ g < W.heap.size := by
  rcases h.2 with ⟨q, _⟩ | ⟨g', cap', cur, e, _, hg, h1, h2, _⟩
  · cases q
  · injection e with e1 e2 e3
    injection e1 with e1
    injection e1 with e1
    subst e1 e3
    exact ⟨h1, h2, (Array.getElem?_eq_some_iff.1 hg).1⟩
theorem strsP_at (ss : List ByteArray) (m : List Value) (i : Nat) (h : i < ss.length) : (strsP ss ++ m)[i]? = some (.string (ss.getD i default)) := by
  rw [List.getElem?_append_left (by simpa [strsP] using h)]
  simp [strsP, List.getD, h]
theorem intsP_at (l : List Int) (m : List Value) (i : Nat) (h : i < l.length) : (intsP l ++ m)[i]? = some (.int .i64 (l.getD i 0)) := by
  rw [List.getElem?_append_left (by simpa [intsP] using h)]
  simp [intsP, List.getD, h]
theorem sgsP_at (l : List Sg) : ∀ i, i < l.length → ∀ j, j < 2 → (sgsP l)[i * 2 + j]? = ((l.getD i default).cs)[j]? := by
  induction l with
  | nil => intro i hi; simp at hi
  | cons x r ih =>
    intro i hi j hj
    have e : sgsP (x :: r) = x.cs ++ sgsP r := rfl
    have le : x.cs.length = 2 := rfl
    rw [e]
    match i with
    | 0 => rw [List.getElem?_append_left (by omega)]; simp
    | i + 1 =>
      rw [List.getElem?_append_right (by omega), le, show (i + 1) * 2 + j - 2 = i * 2 + j by omega, ih i (by simpa using hi) j hj]
      simp
theorem mkw_hd {W : World} {o a : Option Addr} {c n : Nat} {T : TypeId} {k : Nat} {xs : List Value} (h : MkW W o a c n T k xs) : Hd a n c := by
  rcases h with ⟨_, rfl, rfl, rfl⟩ | ⟨_, g, B, rfl, h⟩
  · exact ⟨fun _ => ⟨rfl, rfl⟩, Nat.le_refl _, by unfold maxLen; omega⟩
  · have := own_capP h
    exact ⟨(fun e => by cases e), by omega, this.2.1⟩
theorem mkw_sr {W : World} {o a : Option Addr} {c : Nat} {ss : List ByteArray} {m : List Value} (h : MkW W o a c ss.length 9 1 (strsP ss ++ m)) (h1 : ss.length ≤ 8796093021952) (h2 : ∀ s ∈ ss, s.size ≤ 140737488351232) : SR W a ss.length c ss := by
  refine ⟨mkw_hd h, rfl, h1, h2, ?_⟩
  rcases h with ⟨_, _, _, e⟩ | ⟨_, g, B, rfl, h⟩
  · exact .inl e
  · refine .inr ⟨g, 0, rfl, (own_capP h).2.2, fun i hi j hj => ?_⟩
    obtain rfl : j = 0 := by omega
    have := own_cellsP h i _ (strsP_at ss m i hi)
    simpa using this
theorem mkw_nr {W : World} {o a : Option Addr} {c : Nat} {l : List Int} {m : List Value} (h : MkW W o a c l.length 3 1 (intsP l ++ m)) (h1 : l.length ≤ 17592186043904) (h2 : ∀ i ∈ l, i64 i) : NR W a l.length c l := by
  refine ⟨mkw_hd h, rfl, h1, h2, ?_⟩
  rcases h with ⟨_, _, _, e⟩ | ⟨_, g, B, rfl, h⟩
  · exact .inl e
  · refine .inr ⟨g, 0, rfl, (own_capP h).2.2, fun i hi j hj => ?_⟩
    obtain rfl : j = 0 := by omega
    have := own_cellsP h i _ (intsP_at l m i hi)
    simpa using this
theorem mkw_ir {W : World} {o a : Option Addr} {c : Nat} {l : List In} {m : List Value} (h : MkW W o a c l.length 38 3 (icsP l ++ m)) (h1 : l.length ≤ 5864062014634) (h2 : ∀ i ∈ l, i64 i.o ∧ i64 i.a ∧ i64 i.b) : IR W a l.length c l := by
  refine ⟨mkw_hd h, rfl, h1, h2, ?_⟩
  rcases h with ⟨_, _, _, e⟩ | ⟨_, g, B, rfl, h⟩
  · exact .inl e
  · refine .inr ⟨g, 0, rfl, (own_capP h).2.2, fun i hi j hj => ?_⟩
    have e : (icsP l ++ m)[i * 3 + j]? = some ((icell (l.getD i default)).getD j default) := by
      rw [List.getElem?_append_left (by rw [icsP_len]; omega), icsP_at l i hi j hj]
      have : j < (icell (l.getD i default)).length := hj
      generalize icell (l.getD i default) = z at *
      simp [List.getD, this]
    have := own_cellsP h (i * 3 + j) _ e
    rw [Nat.zero_add]
    exact this
theorem key_days {p q : Pg} (h : q.key = p.key) (i : Nat) : (q.days.getD i default).key = (p.days.getD i default).key := keys_at (key_of h).2.2.2.2.2.2.2 i
/-- A copy is a program. -/
theorem OwnE.pv {w W : World} {p q : Pg} (hp : PV w p) (h : OwnE W p q) : PV W q := by
  obtain ⟨k0, k1, k2, k3, k4, k5, k6, k7⟩ := key_of h.key
  have kl : q.days.length = p.days.length := by have := congrArg List.length k7; simpa using this
  refine ⟨mkw_sr h.mn (by rw [k0]; exact hp.names.2.2.1) (by rw [k0]; exact hp.names.2.2.2.1), mkw_sr h.mu (by rw [k1]; exact hp.curs.2.2.1) (by rw [k1]; exact hp.curs.2.2.2.1), mkw_nr h.mp (by rw [k2]; exact hp.pool.2.2.1) (by rw [k2]; exact hp.pool.2.2.2.1), by rw [k3]; exact hp.hor, by rw [k4]; exact hp.cells, by rw [k5]; exact hp.slots, by rw [k6]; exact hp.stack, ?_⟩
  have GVs : ∀ i, i < q.days.length → GV W (q.days.getD i default) := fun i hi => by
    have hg := hp.days.2.2.2.1 _ (sg_mem (i := i) (by omega))
    have e := key_days h.key i
    unfold Sg.key at e
    injection e with e1 e2
    refine ⟨by rw [e1]; exact hg.1, mkw_ir (h.mc i hi) (by rw [e2]; exact hg.2.2.2.1) (by rw [e2]; exact hg.2.2.2.2.1)⟩
  have GA : ∀ s ∈ q.days, GV W s := fun s hs => by
    obtain ⟨i, hi, rfl⟩ := List.getElem_of_mem hs
    have := GVs i hi
    simpa [List.getD, hi] using this
  have bd := hp.days.2.2.1
  rcases h.md with ⟨e1, e2, e3⟩ | ⟨g, B, e1, e2⟩
  · refine ⟨?_, rfl, by rw [e3]; simp, GA, .inl (by rw [e3]; rfl)⟩
    rw [e1, e2, e3]
    exact ⟨fun _ => ⟨rfl, rfl⟩, Nat.le_refl _, by unfold maxLen; omega⟩
  · have hc := own_capP e2
    rw [e1]
    refine ⟨⟨(fun e => by cases e), by omega, hc.2.1⟩, rfl, by omega, GA, .inr ⟨g, 0, rfl, hc.2.2, fun i hi j hj => ?_⟩⟩
    have e : (sgsP q.days)[i * 2 + j]? = some (((q.days.getD i default).cs).getD j default) := by
      rw [sgsP_at _ i hi j hj]
      have : j < ((q.days.getD i default).cs).length := hj
      generalize (q.days.getD i default).cs = z at *
      simp [List.getD, this]
    have := own_cellsP e2 (i * 2 + j) _ e
    rw [Nat.zero_add]
    exact this
end Go.Proofs.YteedkcmjhdabeaaDoor
