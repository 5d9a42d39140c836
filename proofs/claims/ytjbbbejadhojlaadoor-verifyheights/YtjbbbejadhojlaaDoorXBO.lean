import Derived.Test.YtjbbbejadhojlaaDoorXAL
import Derived.OpenShut
import Derived.Lib.LaidTab
import Derived.Stop.LaidErr
import Derived.Test.YtjbbbejadhojlaaDoorRows
import Derived.Test.YtjbbbejadhojlaaDoorXAA
import Derived.Test.YtjbbbejadhojlaaDoorXAC
namespace Go.Proofs.YtjbbbejadhojlaaDoor
open Go.ChangeShapes Go.WideShapes Go.ChangeAt Go.RowKit
set_option linter.unusedVariables false
set_option linter.unusedSimpArgs false

theorem trod_row6 {H : Type} {enc : TypeId × Value → H} {P : Program} {W : World} {base : Nat} {sp : Nat → Bool} {held : Bool} {t s u i : TypeId} {fs : Array Field} {fuel : Nat} {n : List UInt8} {v1 v2 v3 v4 v5 : Int} {x : DataW H × List MemPlace} {cs : List Value}
    (ht : P.underlying t = some (.struct fs)) (hfs : fs.toList.map (fun f => (f.type, f.offset)) = [(s, 0), (u, 1), (u, 2), (u, 3), (i, 4), (i, 5)]) (hs : P.underlying s = some .string) (hu : P.underlying u = some (.int .u8)) (hi : P.underlying i = some (.int .i32)) (hcs : P.cellsOf s = 1) (hcu : P.cellsOf u = 1) (hci : P.cellsOf i = 1) (hct : P.cellsOf t = 6)
    (h : DataW.trod enc P W base sp held fuel t cs = some x) (hx1 : x.1 = .agg [.lit (.string n), .lit (.int .u8 v1), .lit (.int .u8 v2), .lit (.int .u8 v3), .lit (.int .i32 v4), .lit (.int .i32 v5)]) : cs = [.string ⟨n.toArray⟩, .int .u8 v1, .int .u8 v2, .int .u8 v3, .int .i32 v4, .int .i32 v5] := by
  obtain ⟨xs, m, _, hx, hl, hlen, hfld⟩ := DataW.trod_struct ht h
  rw [hct] at hl
  obtain ⟨c0, c1, c2, c3, c4, c5, rfl⟩ : ∃ a b c d e f, cs = [a, b, c, d, e, f] := by
    match cs, hl with
    | [a, b, c, d, e, f], _ => exact ⟨a, b, c, d, e, f, rfl⟩
  have h3 : fs.size = 6 := by have := congrArg List.length hfs; simpa using this
  have fat : ∀ j (hj : j < 6), ∃ f, fs[j]? = some f ∧ (f.type, f.offset) = [(s, 0), (u, 1), (u, 2), (u, 3), (i, 4), (i, 5)][j] := fun j hj => by
    refine ⟨fs[j]'(by omega), by simp [show j < fs.size by omega], ?_⟩
    have : (fs.toList.map (fun f => (f.type, f.offset)))[j]? = [(s, 0), (u, 1), (u, 2), (u, 3), (i, 4), (i, 5)][j]? := by rw [hfs]
    simpa [show j < fs.size by omega, hj] using this
  obtain ⟨f0, g0, e0⟩ := fat 0 (by omega)
  obtain ⟨f1, g1, e1⟩ := fat 1 (by omega)
  obtain ⟨f2, g2, e2⟩ := fat 2 (by omega)
  obtain ⟨f3, g3, e3⟩ := fat 3 (by omega)
  obtain ⟨f4, g4, e4⟩ := fat 4 (by omega)
  obtain ⟨f5, g5, e5⟩ := fat 5 (by omega)
  obtain ⟨y0, y1, y2, y3, y4, y5, rfl⟩ : ∃ a b c d e f, xs = [a, b, c, d, e, f] := by
    have : xs.length = 6 := by omega
    match xs, this with
    | [a, b, c, d, e, f], _ => exact ⟨a, b, c, d, e, f, rfl⟩
  have k0 := hfld 0 f0 g0
  have k1 := hfld 1 f1 g1
  have k2 := hfld 2 f2 g2
  have k3 := hfld 3 f3 g3
  have k4 := hfld 4 f4 g4
  have k5 := hfld 5 f5 g5
  simp at e0 e1 e2 e3 e4 e5
  simp only [List.getElem?_cons_zero, List.getElem?_cons_succ] at k0 k1 k2 k3 k4 k5
  rw [e0.1, e0.2, hcs] at k0
  rw [e1.1, e1.2, hcu] at k1
  rw [e2.1, e2.2, hcu] at k2
  rw [e3.1, e3.2, hcu] at k3
  rw [e4.1, e4.2, hci] at k4
  rw [e5.1, e5.2, hci] at k5
  obtain ⟨z0, r0, q0, _⟩ := DataW.trod_string hs k0
  obtain ⟨z1, r1, q1, _⟩ := DataW.trod_int hu k1
  obtain ⟨z2, r2, q2, _⟩ := DataW.trod_int hu k2
  obtain ⟨z3, r3, q3, _⟩ := DataW.trod_int hu k3
  obtain ⟨z4, r4, q4, _⟩ := DataW.trod_int hi k4
  obtain ⟨z5, r5, q5, _⟩ := DataW.trod_int hi k5
  simp at r0 r1 r2 r3 r4 r5
  subst r0 r1 r2 r3 r4 r5
  rw [hx] at hx1
  simp only [List.map_cons, List.map_nil, DataW.agg.injEq, List.cons.injEq, and_true] at hx1
  rw [q0, q1, q2, q3, q4, q5] at hx1
  simp at hx1
  obtain ⟨e0, e1, e2, e3, e4, e5⟩ := hx1
  subst e0 e1 e2 e3 e4 e5
  simp
/-- A row, as the list says it. -/
def rowD {H : Type} (k : Nat) : DataW H := .agg [.lit (.string (nmA k).data.toList), .lit (.int .u8 (onA k : Int)), .lit (.int .u8 (tkA k : Int)), .lit (.int .u8 (ptA k : Int)), .lit (.int .i32 (baA k : Int)), .lit (.int .i32 (bbA k : Int))]
theorem laid_rows {H : Type} : (Rows.laid_payoff_code_rows : DataW H) = .agg ((List.range 29).map rowD) := rfl
theorem rws_of_laid {w : World} {rest : List (String × DataW Unit)} (h : laidMet Tryd.prog (("payoff/code.rows", Rows.laid_payoff_code_rows) :: rest) w) : Rws w := by
  have hg : Tryd.prog.globalNamed "payoff/code.rows" = some 1 := by kernel_rfl
  have hty : (Tryd.prog.globals[1]?).map (·.type) = some 152 := by kernel_rfl
  obtain ⟨ps, ⟨g', t', cs, fuel, p, q, hg', ht', hvar, hd, _, _⟩, _⟩ := h
  obtain rfl := Option.some.inj (hg.symm.trans hg')
  obtain rfl := Option.some.inj (hty.symm.trans ht')
  rw [laid_rows] at hd
  obtain ⟨xs, m, _, hx, hl, hlen, hel⟩ := DataW.trod_array Tryd.underlying152 hd
  rw [show Tryd.prog.cellsOf 152 = 174 by kernel_rfl] at hl
  rw [show Tryd.prog.cellsOf 121 = 6 by kernel_rfl] at hel
  have hx1 : xs.map (·.1) = (List.range 29).map rowD := by
    have := congrArg Prod.fst hx
    simp only [DataW.agg.injEq] at this
    exact this.symm
  have key : ∀ k, k < 29 → (cs.toList.drop (k * 6)).take 6 = [.string (nmA k), .int .u8 (onA k : Int), .int .u8 (tkA k : Int), .int .u8 (ptA k : Int), .int .i32 (baA k : Int), .int .i32 (bbA k : Int)] := by
    intro k hk
    have h1 := hel k hk
    have hk' : k < xs.length := by omega
    rw [List.getElem?_eq_getElem hk'] at h1
    have h2 : (xs[k]).1 = rowD k := by
      have : (xs.map (·.1))[k]? = ((List.range 29).map rowD)[k]? := by rw [hx1]
      simpa [hk', hk] using this
    have h3 := trod_row6 (t := 121) (s := 9) (u := 5) (i := 21) Tryd.underlying121 rfl Tryd.underlying9 Tryd.underlying5 Tryd.underlying21 (by kernel_rfl) (by kernel_rfl) (by kernel_rfl) (by kernel_rfl) h1 h2
    rw [h3]
  have cell : ∀ k, k < 29 → ∀ j, j < 6 → w.cell? ⟨1, k * 6 + j, none⟩ = [Value.string (nmA k), .int .u8 (onA k : Int), .int .u8 (tkA k : Int), .int .u8 (ptA k : Int), .int .i32 (baA k : Int), .int .i32 (bbA k : Int)][j]? := by
    intro k hk j hj
    rw [World.var?_cell hg hvar (k * 6 + j), ← key k hk, List.getElem?_take_of_lt hj, List.getElem?_drop]
    simp
  have lt : 1 < w.heap.size := by
    have c0 := cell 0 (by omega) 0 (by omega)
    unfold World.cell? at c0
    by_cases g : 1 < w.heap.size
    · exact g
    · rw [Array.getElem?_eq_none (by show w.heap.size ≤ 1; omega)] at c0
      simp at c0
  exact ⟨lt, fun k hk => ⟨cell k hk 0 (by omega), cell k hk 1 (by omega), cell k hk 2 (by omega), cell k hk 3 (by omega), cell k hk 4 (by omega), cell k hk 5 (by omega)⟩⟩

/-- The instruction that was handed over, in its box. -/
structure Bx3 (w W : World) (x0 x1 x2 : Int) : Prop where
  a0 : W.cell? ⟨w.heap.size, 0, none⟩ = some (.int .i64 x0)
  a1 : W.cell? ⟨w.heap.size, 1, none⟩ = some (.int .i64 x1)
  a2 : W.cell? ⟨w.heap.size, 2, none⟩ = some (.int .i64 x2)
  bel : Below w.heap.size w W
  sz : w.heap.size + 1 ≤ W.heap.size
theorem Bx3.later {w W W' : World} {x0 x1 x2 : Int} (h : Bx3 w W x0 x1 x2) (b : Below W.heap.size W W') : Bx3 w W' x0 x1 x2 :=
  have z := h.sz
  have k := fun (o : Nat) (v : Value) (e : W.cell? ⟨w.heap.size, o, none⟩ = some v) => (b.cell (p := ⟨w.heap.size, o, none⟩) (by show w.heap.size < _; omega)).trans e
  ⟨k 0 _ h.a0, k 1 _ h.a1, k 2 _ h.a2, h.bel.trans (b.mono (by omega)), by have := b.size; omega⟩
theorem Bx3.first (w : World) (x0 x1 x2 : Int) : Bx3 w (w.alloc (.cells #[.int .i64 x0, .int .i64 x1, .int .i64 x2] 51)) x0 x1 x2 :=
  ⟨by go_simp, by go_simp, by go_simp, (Below.refl _ _).alloc (Nat.le_refl _) _, by simp⟩
end Go.Proofs.YtjbbbejadhojlaaDoor

namespace Go.Proofs.YtjbbbejadhojlaaDoor
open Go.RowKit
def pt : PT Tryd.prog where
  I := 3
  hI := Tryd.underlying3
  cI := by kernel_rfl
  bI := by kernel_rfl
  SI := 23
  hSI := Tryd.underlying23
  cSI := by kernel_rfl
  S := 9
  hS := Tryd.underlying9
  cS := by kernel_rfl
  bS := by kernel_rfl
  SS := 22
  hSS := Tryd.underlying22
  cSS := by kernel_rfl
  J := 51
  fJ := _
  hJ := Tryd.underlying51
  lJ := rfl
  cJ := by kernel_rfl
  bJ := by kernel_rfl
  SJ := 41
  hSJ := Tryd.underlying41
  cSJ := by kernel_rfl
  G := 43
  fG := _
  hG := Tryd.underlying43
  lG := rfl
  cG := by kernel_rfl
  bG := by kernel_rfl
  SG := 24
  hSG := Tryd.underlying24
  cSG := by kernel_rfl
  Q := 26
  fQ := _
  hQ := Tryd.underlying26
  lQ := rfl
  cQ := by kernel_rfl
end Go.Proofs.YtjbbbejadhojlaaDoor

namespace Go.Proofs.YtjbbbejadhojlaaDoor
open Go.ChangeShapes Go.WideShapes Go.ChangeAt Go.RowKit
set_option linter.unusedVariables false
set_option linter.unusedSimpArgs false
section
variable {H : Type} {enc : TypeId × Value → H} {P : Program} {W : World} {base : Nat} {sp : Nat → Bool} {held : Bool}
theorem trod_three {t u : TypeId} {fuel : Nat} {v1 v2 v3 : Int} {x : DataW H × List MemPlace} {cs : List Value}
    (ht : P.underlying t = some (.array 3 u)) (hu : P.underlying u = some (.int .u8)) (hcu : P.cellsOf u = 1) (hct : P.cellsOf t = 3)
    (h : DataW.trod enc P W base sp held fuel t cs = some x) (hx1 : x.1 = .agg [.lit (.int .u8 v1), .lit (.int .u8 v2), .lit (.int .u8 v3)]) : cs = [.int .u8 v1, .int .u8 v2, .int .u8 v3] := by
  obtain ⟨xs, m, _, hx, hl, hlen, hel⟩ := DataW.trod_array ht h
  rw [hct] at hl
  rw [hcu] at hel
  obtain ⟨c0, c1, c2, rfl⟩ : ∃ a b c, cs = [a, b, c] := by
    match cs, hl with
    | [a, b, c], _ => exact ⟨a, b, c, rfl⟩
  obtain ⟨y0, y1, y2, rfl⟩ : ∃ a b c, xs = [a, b, c] := by
    match xs, hlen with
    | [a, b, c], _ => exact ⟨a, b, c, rfl⟩
  have k0 := hel 0 (by omega)
  have k1 := hel 1 (by omega)
  have k2 := hel 2 (by omega)
  simp only [List.getElem?_cons_zero, List.getElem?_cons_succ] at k0 k1 k2
  obtain ⟨z1, r1, q1, _⟩ := DataW.trod_int hu k0
  obtain ⟨z2, r2, q2, _⟩ := DataW.trod_int hu k1
  obtain ⟨z3, r3, q3, _⟩ := DataW.trod_int hu k2
  simp at r1 r2 r3
  subst r1 r2 r3
  rw [hx] at hx1
  simp only [List.map_cons, List.map_nil, DataW.agg.injEq, List.cons.injEq, and_true] at hx1
  rw [q1, q2, q3] at hx1
  simp at hx1
  obtain ⟨e1, e2, e3⟩ := hx1
  subst e1 e2 e3
  rfl
theorem trod_rule {t a u : TypeId} {fs : Array Field} {fuel : Nat} {v1 v2 v3 v4 : Int} {x : DataW H × List MemPlace} {cs : List Value}
    (ht : P.underlying t = some (.struct fs)) (hfs : fs.toList.map (fun f => (f.type, f.offset)) = [(a, 0), (u, 3)]) (ha : P.underlying a = some (.array 3 u)) (hu : P.underlying u = some (.int .u8)) (hcu : P.cellsOf u = 1) (hca : P.cellsOf a = 3) (hct : P.cellsOf t = 4)
    (h : DataW.trod enc P W base sp held fuel t cs = some x) (hx1 : x.1 = .agg [.agg [.lit (.int .u8 v1), .lit (.int .u8 v2), .lit (.int .u8 v3)], .lit (.int .u8 v4)]) : cs = [.int .u8 v1, .int .u8 v2, .int .u8 v3, .int .u8 v4] := by
  obtain ⟨xs, m, _, hx, hl, hlen, hfld⟩ := DataW.trod_struct ht h
  rw [hct] at hl
  obtain ⟨c0, c1, c2, c3, rfl⟩ : ∃ a b c d, cs = [a, b, c, d] := by
    match cs, hl with
    | [a, b, c, d], _ => exact ⟨a, b, c, d, rfl⟩
  have h3 : fs.size = 2 := by have := congrArg List.length hfs; simpa using this
  have fat : ∀ j (hj : j < 2), ∃ f, fs[j]? = some f ∧ (f.type, f.offset) = [(a, 0), (u, 3)][j] := fun j hj => by
    refine ⟨fs[j]'(by omega), by simp [show j < fs.size by omega], ?_⟩
    have : (fs.toList.map (fun f => (f.type, f.offset)))[j]? = [(a, 0), (u, 3)][j]? := by rw [hfs]
    simpa [show j < fs.size by omega, hj] using this
  obtain ⟨f0, g0, e0⟩ := fat 0 (by omega)
  obtain ⟨f1, g1, e1⟩ := fat 1 (by omega)
  obtain ⟨y0, y1, rfl⟩ : ∃ a b, xs = [a, b] := by
    have : xs.length = 2 := by omega
    match xs, this with
    | [a, b], _ => exact ⟨a, b, rfl⟩
  have k0 := hfld 0 f0 g0
  have k1 := hfld 1 f1 g1
  simp at e0 e1
  simp only [List.getElem?_cons_zero, List.getElem?_cons_succ] at k0 k1
  rw [e0.1, e0.2, hca] at k0
  rw [e1.1, e1.2, hcu] at k1
  rw [hx] at hx1
  simp only [List.map_cons, List.map_nil, DataW.agg.injEq, List.cons.injEq, and_true] at hx1
  have r0 := trod_three ha hu hcu hca k0 hx1.1
  obtain ⟨z1, r1, q1, _⟩ := DataW.trod_int hu k1
  simp at r0 r1
  rw [q1] at hx1
  have e := hx1.2
  simp at e
  subst e
  obtain ⟨e1, e2, e3⟩ := r0
  subst e1 e2 e3 r1
  rfl
end
def rulD {H : Type} (k : Nat) : DataW H := .agg [.agg [.lit (.int .u8 ((wtA k).getD 0 0 : Int)), .lit (.int .u8 ((wtA k).getD 1 0 : Int)), .lit (.int .u8 ((wtA k).getD 2 0 : Int))], .lit (.int .u8 (psA k : Int))]
theorem laid_rules {H : Type} : (Rows.laid_payoff_verify_rules : DataW H) = .agg ((List.range 29).map rulD) := rfl
theorem rul_of_laid {w : World} {rest : List (String × DataW Unit)} (h : laidMet Tryd.prog (("payoff/verify.rules", Rows.laid_payoff_verify_rules) :: rest) w) : Rul w := by
  have hg : Tryd.prog.globalNamed "payoff/verify.rules" = some 0 := by kernel_rfl
  have hty : (Tryd.prog.globals[0]?).map (·.type) = some 100 := by kernel_rfl
  obtain ⟨ps, ⟨g', t', cs, fuel, p, q, hg', ht', hvar, hd, _, _⟩, _⟩ := h
  obtain rfl := Option.some.inj (hg.symm.trans hg')
  obtain rfl := Option.some.inj (hty.symm.trans ht')
  rw [laid_rules] at hd
  obtain ⟨xs, m, _, hx, hl, hlen, hel⟩ := DataW.trod_array Tryd.underlying100 hd
  rw [show Tryd.prog.cellsOf 100 = 116 by kernel_rfl] at hl
  rw [show Tryd.prog.cellsOf 99 = 4 by kernel_rfl] at hel
  have hx1 : xs.map (·.1) = (List.range 29).map rulD := by
    have := congrArg Prod.fst hx
    simp only [DataW.agg.injEq] at this
    exact this.symm
  have key : ∀ k, k < 29 → (cs.toList.drop (k * 4)).take 4 = [.int .u8 ((wtA k).getD 0 0 : Int), .int .u8 ((wtA k).getD 1 0 : Int), .int .u8 ((wtA k).getD 2 0 : Int), .int .u8 (psA k : Int)] := by
    intro k hk
    have h1 := hel k hk
    have hk' : k < xs.length := by omega
    rw [List.getElem?_eq_getElem hk'] at h1
    have h2 : (xs[k]).1 = rulD k := by
      have : (xs.map (·.1))[k]? = ((List.range 29).map rulD)[k]? := by rw [hx1]
      simpa [hk', hk] using this
    exact trod_rule (t := 99) (a := 95) (u := 75) Tryd.underlying99 rfl (by kernel_rfl) (by kernel_rfl) (by kernel_rfl) (by kernel_rfl) (by kernel_rfl) h1 h2
  have cell : ∀ k, k < 29 → ∀ j, j < 4 → w.cell? ⟨0, k * 4 + j, none⟩ = [Value.int .u8 ((wtA k).getD 0 0 : Int), .int .u8 ((wtA k).getD 1 0 : Int), .int .u8 ((wtA k).getD 2 0 : Int), .int .u8 (psA k : Int)][j]? := by
    intro k hk j hj
    rw [World.var?_cell hg hvar (k * 4 + j), ← key k hk, List.getElem?_take_of_lt hj, List.getElem?_drop]
    simp
  have lt : 0 < w.heap.size := by
    have c0 := cell 0 (by omega) 0 (by omega)
    unfold World.cell? at c0
    by_cases g : 0 < w.heap.size
    · exact g
    · rw [Array.getElem?_eq_none (by show w.heap.size ≤ 0; omega)] at c0
      simp at c0
  exact ⟨lt, fun k hk => ⟨cell k hk 0 (by omega), cell k hk 1 (by omega), cell k hk 2 (by omega), cell k hk 3 (by omega)⟩⟩
end Go.Proofs.YtjbbbejadhojlaaDoor
