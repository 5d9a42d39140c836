import Derived.Test.YtccjeipkljdhdaaGreatDoorXAI
import Derived.Test.YtccjeipkljdhdaaGreatDoorXBH
import Derived.Test.YtccjeipkljdhdaaGreatDoorXBI
import Derived.Test.YtccjeipkljdhdaaGreatDoorXAG
import Derived.ChangeArms
import Derived.Lib.LaidTab
import Derived.Test.YtccjeipkljdhdaaGreatDoorXAT
import Derived.Stop.LaidErr
import Derived.Shelf.Strconv.ErrVarAll
namespace Go.Proofs.YtccjeipkljdhdaaGreatDoor
open Go.RowKit
set_option linter.unusedVariables false
set_option linter.unusedSimpArgs false
/-- The words of the roundings, where the document keeps them. -/
def RMd (w : World) : Prop := 1 < w.heap.size ∧ ∀ k, k < 5 → w.cell? ⟨1, k, none⟩ = some (.string (mdA k))
theorem RMd.later {w w' : World} (h : RMd w) (b : Below w.heap.size w w') : RMd w' := ⟨Nat.lt_of_lt_of_le h.1 b.size, fun k hk => (b.cell (p := ⟨1, k, none⟩) h.1).trans (h.2 k hk)⟩
end Go.Proofs.YtccjeipkljdhdaaGreatDoor

namespace Go.Proofs.YtccjeipkljdhdaaGreatDoor
open Go.RowKit
set_option linter.unusedVariables false
set_option linter.unusedSimpArgs false
/-- A rounding's word, as the list says it. -/
def mdQD {H : Type} (k : Nat) : DataW H := .lit (.string (mdA k).data.toList)
theorem mdsQ_of_laid {w : World} {rest : List (String × DataW Unit)} (h : laidMet Tryz.prog (("payoff/asm.modes", Rows.laid_payoff_asm_modes) :: rest) w) : Mds w := by
  have hg : Tryz.prog.globalNamed "payoff/asm.modes" = some 4 := by kernel_rfl
  have hty : (Tryz.prog.globals[4]?).map (·.type) = some 106 := by kernel_rfl
  obtain ⟨ps, ⟨g', t', cs, fuel, p, q, hg', ht', hvar, hd, _, _⟩, _⟩ := h
  obtain rfl := Option.some.inj (hg.symm.trans hg')
  obtain rfl := Option.some.inj (hty.symm.trans ht')
  rw [show (Rows.laid_payoff_asm_modes : DataW Unit) = .agg ((List.range 5).map mdQD) from rfl] at hd
  obtain ⟨xs, m, _, hx, hl, hlen, hel⟩ := DataW.trod_array Tryz.underlying106 hd
  rw [show Tryz.prog.cellsOf 106 = 5 by kernel_rfl] at hl
  rw [show Tryz.prog.cellsOf 9 = 1 by kernel_rfl] at hel
  have hx1 : xs.map (·.1) = (List.range 5).map mdQD := by
    have := congrArg Prod.fst hx
    simp only [DataW.agg.injEq] at this
    exact this.symm
  have key : ∀ k, k < 5 → (cs.toList.drop (k * 1)).take 1 = [.string (mdA k)] := by
    intro k hk
    have h1 := hel k hk
    have hk' : k < xs.length := by omega
    rw [List.getElem?_eq_getElem hk'] at h1
    have h2 : (xs[k]).1 = mdQD k := by
      have : (xs.map (·.1))[k]? = ((List.range 5).map mdQD)[k]? := by rw [hx1]
      simpa [hk', hk] using this
    obtain ⟨z0, r0, q0, _⟩ := DataW.trod_string Tryz.underlying9 h1
    rw [q0] at h2
    unfold mdQD at h2
    simp only [DataW.lit.injEq, Lit.string.injEq] at h2
    rw [r0]
    exact congrArg (fun t => [Value.string t]) (by
      have : z0.data.toList = (mdA k).data.toList := h2
      obtain ⟨⟨z0⟩⟩ := z0
      generalize mdA k = y at *
      obtain ⟨⟨y⟩⟩ := y
      simp at this
      rw [this])
  have cell : ∀ k, k < 5 → w.cell? ⟨4, k, none⟩ = some (.string (mdA k)) := by
    intro k hk
    rw [World.var?_cell hg hvar k]
    have := congrArg (fun l => l[0]?) (key k hk)
    simp only [List.getElem?_take_of_lt (show 0 < 1 by omega), List.getElem?_drop, Nat.mul_one, Nat.add_zero] at this
    simpa using this
  have lt : 4 < w.heap.size := by
    have c0 := cell 0 (by omega)
    unfold World.cell? at c0
    by_cases g : 4 < w.heap.size
    · exact g
    · rw [Array.getElem?_eq_none (by show w.heap.size ≤ 4; omega)] at c0
      simp at c0
  exact ⟨lt, cell⟩
end Go.Proofs.YtccjeipkljdhdaaGreatDoor

namespace Go.Proofs.YtccjeipkljdhdaaGreatDoor
open Go.Shelf Go.RowKit

theorem starES : "*errors.errorString" = "*" ++ "errors.errorString" := by decide
theorem rowES (u : TypeId) (h : Tryz.prog.typeName? 3 u = some "*errors.errorString") : u = 210 :=
  typeName_ptr_named (nm := "errors.errorString") (by rw [← starES]; kernel_rfl) (by kernel_rfl) (by decide) u (by rw [← starES]; exact h)
theorem ev_of_laid {w : World} {r : List (String × DataW Unit)} (h : laidMet Tryz.prog (("strconv.ErrRange", Rows.laid_strconv_ErrRange) :: ("strconv.ErrSyntax", Rows.laid_strconv_ErrSyntax) :: r) w) : Ev w := by
  obtain ⟨a0, s0, hv0, -, -, -⟩ := laid_sentinel h (g := 8) (ti := 85) (by kernel_rfl) (by kernel_rfl) Tryz.underlying85 rowES Tryz.underlying210 Tryz.underlying212 rfl rfl Tryz.underlying9 (by kernel_rfl) (by kernel_rfl)
  obtain ⟨a1, s1, hv1, -, -, -⟩ := laid_sentinel h.tail (g := 7) (ti := 85) (by kernel_rfl) (by kernel_rfl) Tryz.underlying85 rowES Tryz.underlying210 Tryz.underlying212 rfl rfl Tryz.underlying9 (by kernel_rfl) (by kernel_rfl)
  exact ⟨⟨_, _, hv1⟩, _, _, hv0⟩
end Go.Proofs.YtccjeipkljdhdaaGreatDoor

namespace Go.Proofs.YtccjeipkljdhdaaGreatDoor

theorem pows_eq : (Rows.laid_internal_strconv_uint64pow10 : DataW Unit) = Lib.tabData .u64 Lib.pow10Tab := by kernel_rfl
theorem pows_of_laid {w : World} {rest : List (String × DataW Unit)} (h : laidMet Tryz.prog (("internal/strconv.uint64pow10", Rows.laid_internal_strconv_uint64pow10) :: rest) w) : Pows w := by
  rw [pows_eq] at h
  exact Lib.tabIs_of_head (g := 6) (t := 192) (e := 102) (n := 20) (by kernel_rfl) (by kernel_rfl) Tryz.underlying192 Tryz.underlying102 (by kernel_rfl) (by kernel_rfl) h
end Go.Proofs.YtccjeipkljdhdaaGreatDoor

namespace Go.Proofs.YtccjeipkljdhdaaGreatDoor
open Go.RowKit
set_option linter.unusedVariables false
set_option linter.unusedSimpArgs false
/-- The document's heads, in memory. -/
def HdR (w : World) : Prop := 0 < w.heap.size ∧ ∀ k, k < 7 → w.cell? ⟨0, k, none⟩ = some (.string (hdA k))
theorem HdR.later {w w' : World} (h : HdR w) (b : Below w.heap.size w w') : HdR w' := ⟨Nat.lt_of_lt_of_le h.1 b.size, fun k hk => (b.cell (p := ⟨0, k, none⟩) h.1).trans (h.2 k hk)⟩
theorem trod_pairQ {H : Type} {enc : TypeId × Value → H} {P : Program} {W : World} {base : Nat} {sp : Nat → Bool} {held : Bool} {t s u : TypeId} {fs : Array Field} {fuel : Nat} {n : List UInt8} {f : Bool} {x : DataW H × List MemPlace} {cs : List Value}
    (ht : P.underlying t = some (.struct fs)) (hfs : fs.toList.map (fun f => (f.type, f.offset)) = [(s, 0), (u, 1)]) (hs : P.underlying s = some .string) (hcs : P.cellsOf s = 1) (hu : P.underlying u = some .bool) (hcu : P.cellsOf u = 1)
    (h : DataW.trod enc P W base sp held fuel t cs = some x) (hx1 : x.1 = .agg [.lit (.string n), .lit (.bool f)]) : cs[0]? = some (.string ⟨n.toArray⟩) ∧ cs[1]? = some (.bool f) := by
  obtain ⟨xs, m, _, hx, hl, hlen, hfld⟩ := DataW.trod_struct ht h
  have h3 : fs.size = 2 := by have := congrArg List.length hfs; simpa using this
  have fat : ∀ j (hj : j < 2), ∃ f, fs[j]? = some f ∧ (f.type, f.offset) = [(s, 0), (u, 1)][j] := by
    intro j hj
    refine ⟨fs[j]'(by omega), by simp [show j < fs.size by omega], ?_⟩
    have : (fs.toList.map (fun f => (f.type, f.offset)))[j]? = [(s, 0), (u, 1)][j]? := by rw [hfs]
    simpa [show j < fs.size by omega, hj] using this
  obtain ⟨f0, g0, e0⟩ := fat 0 (by omega)
  obtain ⟨f1, g1, e1⟩ := fat 1 (by omega)
  obtain ⟨y0, y1, rfl⟩ : ∃ a b, xs = [a, b] := by
    have : xs.length = 2 := by omega
    match xs, this with
    | [a, b], _ => exact ⟨a, b, rfl⟩
  have k0 := hfld 0 f0 g0
  have k1 := hfld 1 f1 g1
  simp at e0 e1
  simp only [List.getElem?_cons_zero, List.getElem?_cons_succ] at k0 k1
  rw [e0.1, e0.2, hcs] at k0
  rw [e1.1, e1.2, hcu] at k1
  obtain ⟨z0, r0, q0, _⟩ := DataW.trod_string hs k0
  obtain ⟨z1, r1, q1⟩ := DataW.trod_bool hu k1
  rw [hx] at hx1
  simp only [List.map_cons, List.map_nil, DataW.agg.injEq, List.cons.injEq, and_true] at hx1
  rw [q0, q1] at hx1
  simp at hx1
  have a0 := congrArg (fun l => l[0]?) r0
  have a1 := congrArg (fun l => l[0]?) r1
  simp only [List.drop_zero, List.getElem?_cons_zero] at a0
  simp only [List.getElem?_cons_zero] at a1
  rw [List.getElem?_take_of_lt (by omega)] at a0 a1
  rw [List.getElem?_drop] at a1
  refine ⟨?_, ?_⟩
  · rw [a0]
    obtain ⟨⟨z0⟩⟩ := z0
    have := hx1.1
    simp at this
    simp [this]
  · rw [show (1 : Nat) = 1 + 0 from rfl, a1, hx1.2]
/-- A line's rule, as the list says it. -/
def lnDQ {H : Type} (k : Nat) : DataW H := .agg [.lit (.string (hdA k).data.toList), .lit (.bool (optA k))]
theorem lnr_of_laid {w : World} {rest : List (String × DataW Unit)} (h : laidMet Tryz.prog (("payoff/asm.lines", Rows.laid_payoff_asm_lines) :: rest) w) : LnR w := by
  have hg : Tryz.prog.globalNamed "payoff/asm.lines" = some 2 := by kernel_rfl
  have hty : (Tryz.prog.globals[2]?).map (·.type) = some 119 := by kernel_rfl
  obtain ⟨ps, ⟨g', t', cs, fuel, p, q, hg', ht', hvar, hd, _, _⟩, _⟩ := h
  obtain rfl := Option.some.inj (hg.symm.trans hg')
  obtain rfl := Option.some.inj (hty.symm.trans ht')
  rw [show (Rows.laid_payoff_asm_lines : DataW Unit) = .agg ((List.range 8).map lnDQ) from rfl] at hd
  obtain ⟨xs, m, _, hx, hl, hlen, hel⟩ := DataW.trod_array Tryz.underlying119 hd
  rw [show Tryz.prog.cellsOf 118 = 2 by kernel_rfl] at hel
  have hx1 : xs.map (·.1) = (List.range 8).map lnDQ := by
    have := congrArg Prod.fst hx
    simp only [DataW.agg.injEq] at this
    exact this.symm
  have cell : ∀ k, k < 8 → w.cell? ⟨2, k * 2, none⟩ = some (.string (hdA k)) ∧ w.cell? ⟨2, k * 2 + 1, none⟩ = some (.bool (optA k)) := by
    intro k hk
    have h1 := hel k hk
    have hk' : k < xs.length := by omega
    rw [List.getElem?_eq_getElem hk'] at h1
    have h2 : (xs[k]).1 = lnDQ k := by
      have : (xs.map (·.1))[k]? = ((List.range 8).map lnDQ)[k]? := by rw [hx1]
      simpa [hk', hk] using this
    obtain ⟨h3, h4⟩ := trod_pairQ (t := 118) (s := 9) (u := 4) Tryz.underlying118 rfl Tryz.underlying9 (by kernel_rfl) Tryz.underlying4 (by kernel_rfl) h1 h2
    rw [List.getElem?_take_of_lt (by omega), List.getElem?_drop] at h3 h4
    rw [Nat.add_zero] at h3
    rw [World.var?_cell hg hvar (k * 2), World.var?_cell hg hvar (k * 2 + 1)]
    exact ⟨by simpa using h3, by simpa using h4⟩
  have lt : 2 < w.heap.size := by
    have c0 := (cell 0 (by omega)).1
    unfold World.cell? at c0
    by_cases g : 2 < w.heap.size
    · exact g
    · rw [Array.getElem?_eq_none (by show w.heap.size ≤ 2; omega)] at c0
      simp at c0
  exact ⟨lt, cell⟩
end Go.Proofs.YtccjeipkljdhdaaGreatDoor
