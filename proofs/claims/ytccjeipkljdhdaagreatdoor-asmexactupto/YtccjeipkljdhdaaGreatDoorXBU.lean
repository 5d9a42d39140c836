import Derived.Test.YtccjeipkljdhdaaGreatDoorXBK
import Derived.Test.YtccjeipkljdhdaaGreatDoorXBT
import Derived.Test.YtccjeipkljdhdaaGreatDoorXAK
import Derived.Test.YtccjeipkljdhdaaGreatDoorXBQ
import Derived.ChangeArms
import Derived.Lib.LaidTab
import Derived.Stop.LaidErr
import Derived.Shelf.Strconv.ErrVarAll
import Derived.Test.YtccjeipkljdhdaaGreatDoorXAC
namespace Go.Proofs.YtccjeipkljdhdaaGreatDoor
open Go.RowKit
set_option linter.unusedVariables false
set_option linter.unusedSimpArgs false

theorem asmExact_law {w : World} {a : Option Addr} {n c : Nat} {ss : List ByteArray} (hS : SR w a n c ss) (hn : n ≤ 1048576) (hG : GlA w) (hM : RMd w) (hd : HdR w) :
    Calls Tryz.prog 5 #[.slice a n c] w fun e w' => e = .returned (.bool true) ∧ Below w.heap.size w w' :=
  asmExact_any hS hn (fun W b s => parseO_any s (fun W' b' => hG.laterH (b.trans (b'.mono b.size)))) (fun W b s => parseD_any s (hM.later b) (hd.later b))
end Go.Proofs.YtccjeipkljdhdaaGreatDoor

namespace Go.Proofs.YtccjeipkljdhdaaGreatDoor
open Go.RowKit
set_option linter.unusedVariables false
set_option linter.unusedSimpArgs false
/-- A rounding's word, as the list says it. -/
def mdQD {H : Type} (k : Nat) : DataW H := .lit (.string (mdA k).data.toList)
theorem mdsQ_of_laid {w : World} {rest : List (String × DataW Unit)} (h : laidMet Tryz.prog (("payoff/asm.modes", Rows.laid_payoff_asm_modes) :: rest) w) : Mds w := by
  have hg : Tryz.prog.globalNamed "payoff/asm.modes" = some 4 := by kernel_rfl
  have hty : (Tryz.prog.globals[4]?).map (·.type) = some 106 := by kernel_rfl
  obtain ⟨ps, ⟨g', t', cs, fuel, p, q, hg', ht', hvar, hd, _, _⟩, _⟩ := h
  obtain rfl := Option.some.inj (hg.symm.trans hg')
  obtain rfl := Option.some.inj (hty.symm.trans ht')
  rw [show (Rows.laid_payoff_asm_modes : DataW Unit) = .agg ((List.range 5).map mdQD) from rfl] at hd
  obtain ⟨xs, m, _, hx, hl, hlen, hel⟩ := DataW.trod_array Tryz.underlying106 hd
  rw [show Tryz.prog.cellsOf 106 = 5 by kernel_rfl] at hl
  rw [show Tryz.prog.cellsOf 9 = 1 by kernel_rfl] at hel
  have hx1 : xs.map (·.1) = (List.range 5).map mdQD := by
    have := congrArg Prod.fst hx
    simp only [DataW.agg.injEq] at this
    exact this.symm
  have key : ∀ k, k < 5 → (cs.toList.drop (k * 1)).take 1 = [.string (mdA k)] := by
    intro k hk
    have h1 := hel k hk
    have hk' : k < xs.length := by omega
    rw [List.getElem?_eq_getElem hk'] at h1
    have h2 : (xs[k]).1 = mdQD k := by
      have : (xs.map (·.1))[k]? = ((List.range 5).map mdQD)[k]? := by rw [hx1]
      simpa [hk', hk] using this
    obtain ⟨z0, r0, q0, _⟩ := DataW.trod_string Tryz.underlying9 h1
    rw [q0] at h2
    unfold mdQD at h2
    simp only [DataW.lit.injEq, Lit.string.injEq] at h2
    rw [r0]
    exact congrArg (fun t => [Value.string t]) (by
      have : z0.data.toList = (mdA k).data.toList := h2
      obtain ⟨⟨z0⟩⟩ := z0
      generalize mdA k = y at *
      obtain ⟨⟨y⟩⟩ := y
      simp at this
      rw [this])
  have cell : ∀ k, k < 5 → w.cell? ⟨4, k, none⟩ = some (.string (mdA k)) := by
    intro k hk
    rw [World.var?_cell hg hvar k]
    have := congrArg (fun l => l[0]?) (key k hk)
    simp only [List.getElem?_take_of_lt (show 0 < 1 by omega), List.getElem?_drop, Nat.mul_one, Nat.add_zero] at this
    simpa using this
  have lt : 4 < w.heap.size := by
    have c0 := cell 0 (by omega)
    unfold World.cell? at c0
    by_cases g : 4 < w.heap.size
    · exact g
    · rw [Array.getElem?_eq_none (by show w.heap.size ≤ 4; omega)] at c0
      simp at c0
  exact ⟨lt, cell⟩
theorem rmdQ_of_laid {w : World} {rest : List (String × DataW Unit)} (h : laidMet Tryz.prog (("payoff/payoffref13.modes", Rows.laid_payoff_payoffref13_modes) :: rest) w) : RMd w := by
  have hg : Tryz.prog.globalNamed "payoff/payoffref13.modes" = some 1 := by kernel_rfl
  have hty : (Tryz.prog.globals[1]?).map (·.type) = some 106 := by kernel_rfl
  obtain ⟨ps, ⟨g', t', cs, fuel, p, q, hg', ht', hvar, hd, _, _⟩, _⟩ := h
  obtain rfl := Option.some.inj (hg.symm.trans hg')
  obtain rfl := Option.some.inj (hty.symm.trans ht')
  rw [show (Rows.laid_payoff_payoffref13_modes : DataW Unit) = .agg ((List.range 5).map mdQD) from rfl] at hd
  obtain ⟨xs, m, _, hx, hl, hlen, hel⟩ := DataW.trod_array Tryz.underlying106 hd
  rw [show Tryz.prog.cellsOf 106 = 5 by kernel_rfl] at hl
  rw [show Tryz.prog.cellsOf 9 = 1 by kernel_rfl] at hel
  have hx1 : xs.map (·.1) = (List.range 5).map mdQD := by
    have := congrArg Prod.fst hx
    simp only [DataW.agg.injEq] at this
    exact this.symm
  have key : ∀ k, k < 5 → (cs.toList.drop (k * 1)).take 1 = [.string (mdA k)] := by
    intro k hk
    have h1 := hel k hk
    have hk' : k < xs.length := by omega
    rw [List.getElem?_eq_getElem hk'] at h1
    have h2 : (xs[k]).1 = mdQD k := by
      have : (xs.map (·.1))[k]? = ((List.range 5).map mdQD)[k]? := by rw [hx1]
      simpa [hk', hk] using this
    obtain ⟨z0, r0, q0, _⟩ := DataW.trod_string Tryz.underlying9 h1
    rw [q0] at h2
    unfold mdQD at h2
    simp only [DataW.lit.injEq, Lit.string.injEq] at h2
    rw [r0]
    exact congrArg (fun t => [Value.string t]) (by
      have : z0.data.toList = (mdA k).data.toList := h2
      obtain ⟨⟨z0⟩⟩ := z0
      generalize mdA k = y at *
      obtain ⟨⟨y⟩⟩ := y
      simp at this
      rw [this])
  have cell : ∀ k, k < 5 → w.cell? ⟨1, k, none⟩ = some (.string (mdA k)) := by
    intro k hk
    rw [World.var?_cell hg hvar k]
    have := congrArg (fun l => l[0]?) (key k hk)
    simp only [List.getElem?_take_of_lt (show 0 < 1 by omega), List.getElem?_drop, Nat.mul_one, Nat.add_zero] at this
    simpa using this
  have lt : 1 < w.heap.size := by
    have c0 := cell 0 (by omega)
    unfold World.cell? at c0
    by_cases g : 1 < w.heap.size
    · exact g
    · rw [Array.getElem?_eq_none (by show w.heap.size ≤ 1; omega)] at c0
      simp at c0
  exact ⟨lt, cell⟩
end Go.Proofs.YtccjeipkljdhdaaGreatDoor

namespace Go.Proofs.YtccjeipkljdhdaaGreatDoor
open Go.Shelf Go.RowKit

theorem starES : "*errors.errorString" = "*" ++ "errors.errorString" := by decide
theorem rowES (u : TypeId) (h : Tryz.prog.typeName? 3 u = some "*errors.errorString") : u = 210 :=
  typeName_ptr_named (nm := "errors.errorString") (by rw [← starES]; kernel_rfl) (by kernel_rfl) (by decide) u (by rw [← starES]; exact h)
theorem ev_of_laid {w : World} {r : List (String × DataW Unit)} (h : laidMet Tryz.prog (("strconv.ErrRange", Rows.laid_strconv_ErrRange) :: ("strconv.ErrSyntax", Rows.laid_strconv_ErrSyntax) :: r) w) : Ev w := by
  obtain ⟨a0, s0, hv0, -, -, -⟩ := laid_sentinel h (g := 8) (ti := 85) (by kernel_rfl) (by kernel_rfl) Tryz.underlying85 rowES Tryz.underlying210 Tryz.underlying212 rfl rfl Tryz.underlying9 (by kernel_rfl) (by kernel_rfl)
  obtain ⟨a1, s1, hv1, -, -, -⟩ := laid_sentinel h.tail (g := 7) (ti := 85) (by kernel_rfl) (by kernel_rfl) Tryz.underlying85 rowES Tryz.underlying210 Tryz.underlying212 rfl rfl Tryz.underlying9 (by kernel_rfl) (by kernel_rfl)
  exact ⟨⟨_, _, hv1⟩, _, _, hv0⟩
end Go.Proofs.YtccjeipkljdhdaaGreatDoor

namespace Go.Proofs.YtccjeipkljdhdaaGreatDoor

theorem pows_eq : (Rows.laid_internal_strconv_uint64pow10 : DataW Unit) = Lib.tabData .u64 Lib.pow10Tab := by kernel_rfl
theorem pows_of_laid {w : World} {rest : List (String × DataW Unit)} (h : laidMet Tryz.prog (("internal/strconv.uint64pow10", Rows.laid_internal_strconv_uint64pow10) :: rest) w) : Pows w := by
  rw [pows_eq] at h
  exact Lib.tabIs_of_head (g := 6) (t := 192) (e := 102) (n := 20) (by kernel_rfl) (by kernel_rfl) Tryz.underlying192 Tryz.underlying102 (by kernel_rfl) (by kernel_rfl) h
end Go.Proofs.YtccjeipkljdhdaaGreatDoor
