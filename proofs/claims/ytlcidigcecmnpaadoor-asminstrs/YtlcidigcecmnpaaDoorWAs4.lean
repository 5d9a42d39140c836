/-
  WALK: the marks behind a copy's lists; a copy is a program.
-/
import Derived.Test.YtlcidigcecmnpaaDoorWAs1
import Derived.Test.YtlcidigcecmnpaaDoorWImg8
namespace Go.Proofs.YtlcidigcecmnpaaDoor
open Go.RowKit
set_option linter.unusedVariables false
set_option linter.unusedSimpArgs false
theorem cpw_hd {W : World} {a : Option Addr} {c n : Nat} {T : TypeId} {k : Nat} {xs : List Value} (h : CpW W a c n T k xs) : Hd a n c := by
  obtain ⟨g, B, rfl, h⟩ := h
  have := own_capP h
  exact ⟨(fun e => by cases e), by omega, this.2.1⟩
theorem cpw_sr {W : World} {a : Option Addr} {c : Nat} {ss : List ByteArray} {m : List Value} (h : CpW W a c ss.length 9 1 (strsP ss ++ m)) (h1 : ss.length ≤ 8796093021952) (h2 : ∀ s ∈ ss, s.size ≤ 140737488351232) : SR W a ss.length c ss := by
  refine ⟨cpw_hd h, rfl, h1, h2, ?_⟩
  obtain ⟨g, B, rfl, h⟩ := h
  refine .inr ⟨g, 0, rfl, (own_capP h).2.2, fun i hi j hj => ?_⟩
  obtain rfl : j = 0 := by omega
  have := own_cellsP h i _ (strsP_at ss m i hi)
  simpa using this
theorem cpw_nr {W : World} {a : Option Addr} {c : Nat} {l : List Int} {m : List Value} (h : CpW W a c l.length 3 1 (intsP l ++ m)) (h1 : l.length ≤ 17592186043904) (h2 : ∀ i ∈ l, i64 i) : NR W a l.length c l := by
  refine ⟨cpw_hd h, rfl, h1, h2, ?_⟩
  obtain ⟨g, B, rfl, h⟩ := h
  refine .inr ⟨g, 0, rfl, (own_capP h).2.2, fun i hi j hj => ?_⟩
  obtain rfl : j = 0 := by omega
  have := own_cellsP h i _ (intsP_at l m i hi)
  simpa using this
theorem cpw_ir {W : World} {a : Option Addr} {c : Nat} {l : List In} {m m' : List Value} (h : CpW W a c l.length 28 3 (icsP l ++ m ++ m')) (h1 : l.length ≤ 5864062014634) (h2 : ∀ i ∈ l, i64 i.o ∧ i64 i.a ∧ i64 i.b) : IR W a l.length c l := by
  refine ⟨cpw_hd h, rfl, h1, h2, ?_⟩
  obtain ⟨g, B, rfl, h⟩ := h
  rw [List.append_assoc] at h
  refine .inr ⟨g, 0, rfl, (own_capP h).2.2, fun i hi j hj => ?_⟩
  have e : (icsP l ++ (m ++ m'))[i * 3 + j]? = some ((icell (l.getD i default)).getD j default) := by
    rw [List.getElem?_append_left (by rw [icsP_len]; omega), icsP_at l i hi j hj]
    have : j < (icell (l.getD i default)).length := hj
    generalize icell (l.getD i default) = z at *
    simp [List.getD, this]
  have := own_cellsP h (i * 3 + j) _ e
  rw [Nat.zero_add]
  exact this
theorem sgsP_len (l : List Sg) : (sgsP l).length = l.length * 2 := by
  induction l with
  | nil => rfl
  | cons x r ih =>
    have e : sgsP (x :: r) = x.cs ++ sgsP r := rfl
    rw [e, List.length_append, ih, List.length_cons]
    show 2 + r.length * 2 = _
    omega
/-- A copy is a program. -/
theorem CpE.pv {w W : World} {p q : Pg} (hp : PV w p) (h : CpE W p q) : PV W q := by
  obtain ⟨k0, k1, k2, k3, k4, k5, k6, k7⟩ := key_of h.key
  have kl : q.days.length = p.days.length := by have := congrArg List.length k7; simpa using this
  refine ⟨cpw_sr h.mn (by rw [k0]; exact hp.names.2.2.1) (by rw [k0]; exact hp.names.2.2.2.1), cpw_sr h.mu (by rw [k1]; exact hp.curs.2.2.1) (by rw [k1]; exact hp.curs.2.2.2.1), cpw_nr h.mp (by rw [k2]; exact hp.pool.2.2.1) (by rw [k2]; exact hp.pool.2.2.2.1), by rw [k3]; exact hp.hor, by rw [k4]; exact hp.cells, by rw [k5]; exact hp.slots, by rw [k6]; exact hp.stack, ?_⟩
  have GVs : ∀ i, i < q.days.length → GV W (q.days.getD i default) := fun i hi => by
    have hg := hp.days.2.2.2.1 _ (sg_mem (i := i) (by omega))
    have e := key_days h.key i
    unfold Sg.key at e
    injection e with e1 e2
    refine ⟨by rw [e1]; exact hg.1, cpw_ir (h.mc i hi) (by rw [e2]; exact hg.2.2.2.1) (by rw [e2]; exact hg.2.2.2.2.1)⟩
  have GA : ∀ s ∈ q.days, GV W s := fun s hs => by
    obtain ⟨i, hi, rfl⟩ := List.getElem_of_mem hs
    have := GVs i hi
    simpa [List.getD, hi] using this
  have bd := hp.days.2.2.1
  have hh := cpw_hd h.md
  obtain ⟨g, B, e1, e2⟩ := h.md
  rw [List.append_assoc] at e2
  have hc := own_capP e2
  refine ⟨hh, rfl, by omega, GA, ?_⟩
  rw [e1]
  refine .inr ⟨g, 0, rfl, hc.2.2, fun i hi j hj => ?_⟩
  have e : (sgsP q.days ++ (s77.cs ++ s77.cs))[i * 2 + j]? = some (((q.days.getD i default).cs).getD j default) := by
    rw [List.getElem?_append_left (by rw [sgsP_len]; omega), sgsP_at _ i hi j hj]
    have : j < ((q.days.getD i default).cs).length := hj
    generalize (q.days.getD i default).cs = z at *
    simp [List.getD, this]
  have := own_cellsP e2 (i * 2 + j) _ e
  rw [Nat.zero_add]
  exact this
/-- The marks of a row. -/
theorem marks1 {W : World} {a : Option Addr} {c n : Nat} {T : TypeId} {l : List Value} {x y : Value} (h : CpW W a c n T 1 (l ++ [x, y])) (hl : l.length = n) : ∃ g, a = some ⟨g, 0, none⟩ ∧ g < W.heap.size ∧ n + 2 ≤ c ∧ W.cell? ⟨g, n, none⟩ = some x ∧ W.cell? ⟨g, n + 1, none⟩ = some y := by
  obtain ⟨g, B, rfl, h⟩ := h
  have hc := own_capP h
  exact ⟨g, rfl, hc.2.2, hc.1, own_cellsP h n x (by rw [List.getElem?_append_right (by omega), hl]; simp), own_cellsP h (n + 1) y (by rw [List.getElem?_append_right (by omega), hl]; simp)⟩
end Go.Proofs.YtlcidigcecmnpaaDoor
