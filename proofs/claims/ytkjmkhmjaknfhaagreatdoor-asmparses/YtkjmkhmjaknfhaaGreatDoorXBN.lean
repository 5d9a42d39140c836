import Derived.Test.YtkjmkhmjaknfhaaGreatDoorXBL
import Derived.Test.YtkjmkhmjaknfhaaGreatDoorXBM
import Derived.Test.YtkjmkhmjaknfhaaGreatDoorXAJ
import Derived.Test.YtkjmkhmjaknfhaaGreatDoorXAZ
import Derived.ChangeArms
import Derived.Lib.LaidTab
import Derived.Stop.LaidErr
import Derived.Shelf.Strconv.ErrVarAll
import Derived.Test.YtkjmkhmjaknfhaaGreatDoorXAB
namespace Go.Proofs.YtkjmkhmjaknfhaaGreatDoor
open Go.RowKit
set_option linter.unusedVariables false
set_option linter.unusedSimpArgs false

theorem GlA.laterQ {w W : World} (h : GlA w) (b : Below w.heap.size w W) : GlA W := ⟨pows_below h.pw b, ev_below h.ev b, h.rw_.below b, h.md.later b, h.ln.later b⟩
set_option maxRecDepth 100000 in
set_option maxHeartbeats 2000000 in
theorem asmParses_any {w : World} (s : ByteArray) (hG : GlA w) (hM : RMd w) (hd : HdR w) :
    Calls Tryz.prog 7 #[.string s] w fun e w' => e = .returned (.bool true) ∧ Below w.heap.size w w' := by
  have K1 := Lib.hid (parse_any (w := w) s (fun W b => hG.laterQ b))
  have K2 := Lib.hid (fun W (b : Below w.heap.size w W) => parseD_any (w := W) s (hM.later b) (hd.later b))
  clear hG hM hd
  obtain ⟨O, hO⟩ : ∃ O, outA s = O := ⟨_, rfl⟩
  have HO := Lib.hid hO
  clear hO
  go_enter Tryz.func7, Tryz.ntmps7
  go_upto_region 3 with (first
    | (go_at_call 10; refine K1.out.mono ?_; rintro e w1 ⟨⟨a0, b0, c0, a1, b1, c1, a2, b2, c2, n0, n1, n2, n3, a3, b3, c3⟩, rfl, hpv, hkey, hb⟩; rw [HO.out]; simp only [Pg.agg]; have P1 := Lib.hid hpv; have Q1 := Lib.hid hkey; have B1 := Lib.hid hb; have X1 := Lib.hid (hb.trans ((allocBP w1 (.cells #[.slice a0 c0.length b0, .slice a1 c1.length b1, .slice a2 c2.length b2, .int .i64 n0, .int .i64 n1, .int .i64 n2, .int .i64 n3, .slice a3 c3.length b3] 27)).mono hb.size)); clear hpv hkey hb)
    | (go_at_call 17; refine (K2.out _ X1.out).mono ?_; rintro e w2 ⟨⟨d0, e0, f0, d1, e1, f1, d2, e2, f2, m0, m1, m2, m3, d3, e3, f3⟩, rfl, hpv, hkey, hb⟩; rw [HO.out]; simp only [Pg.agg]; have P2 := Lib.hid hpv; have Q2 := Lib.hid hkey; have Y2 := Lib.hid hb; clear hpv hkey hb))
  have bx1 := heapN w1 (.cells #[.slice a0 c0.length b0, .slice a1 c1.length b1, .slice a2 c2.length b2, .int .i64 n0, .int .i64 n1, .int .i64 n2, .int .i64 n3, .slice a3 c3.length b3] 27)
  have B2 := Lib.hid (p := Below w1.heap.size w1 w2) ((allocBP w1 _).trans (Y2.out.mono (allocBP w1 _).size))
  have bx1' := (Y2.out.block w1.heap.size (by simp)).trans bx1
  have A2 := Lib.hid (allocBP w2 (.cells #[.slice d0 f0.length e0, .slice d1 f1.length e1, .slice d2 f2.length e2, .int .i64 m0, .int .i64 m1, .int .i64 m2, .int .i64 m3, .slice d3 f3.length e3] 27))
  have bx2 := heapN w2 (.cells #[.slice d0 f0.length e0, .slice d1 f1.length e1, .slice d2 f2.length e2, .int .i64 m0, .int .i64 m1, .int .i64 m2, .int .i64 m3, .slice d3 f3.length e3] 27)
  have bx1'' := (A2.out.block w1.heap.size (Array.getElem?_eq_some_iff.1 bx1').1).trans bx1'
  obtain ⟨x0, x1, x2, x3, x4, x5, x6, x7⟩ := box_8Q bx1''
  obtain ⟨y0, y1, y2, y3, y4, y5, y6, y7⟩ := box_8Q bx2
  have KS := Lib.hid (same13_any (w := w2.alloc (.cells #[.slice d0 f0.length e0, .slice d1 f1.length e1, .slice d2 f2.length e2, .int .i64 m0, .int .i64 m1, .int .i64 m2, .int .i64 m3, .slice d3 f3.length e3] 27)) (P1.out.later (B2.out.trans (A2.out.mono B2.out.size))) (P2.out.later A2.out) (Q2.out.trans Q1.out.symm))
  have BW := Lib.hid (B1.out.trans ((B2.out.trans (A2.out.mono B2.out.size)).mono B1.out.size))
  clear bx1 bx1' bx1'' bx2
  obtain ⟨w4, hw4⟩ : ∃ y, w2.alloc (.cells #[.slice d0 f0.length e0, .slice d1 f1.length e1, .slice d2 f2.length e2, .int .i64 m0, .int .i64 m1, .int .i64 m2, .int .i64 m3, .slice d3 f3.length e3] 27) = y := ⟨_, rfl⟩
  rw [hw4] at KS BW x0 x1 x2 x3 x4 x5 x6 x7 y0 y1 y2 y3 y4 y5 y6 y7
  rw [hw4]
  clear hw4 P1 P2 Q1 Q2 B1 X1 Y2 B2 A2
  go_wp2_with (go_at_call 11; refine KS.out.mono ?_; rintro e w5 ⟨rfl, h5⟩; have B5 := Lib.hid h5; clear h5)
  go_ret
  exact ⟨by simp, BW.out.trans (B5.out.mono BW.out.size)⟩
end Go.Proofs.YtkjmkhmjaknfhaaGreatDoor

namespace Go.Proofs.YtkjmkhmjaknfhaaGreatDoor
open Go.RowKit
set_option linter.unusedVariables false
set_option linter.unusedSimpArgs false
/-- A rounding's word, as the list says it. -/
def mdQD {H : Type} (k : Nat) : DataW H := .lit (.string (mdA k).data.toList)
theorem mdsQ_of_laid {w : World} {rest : List (String × DataW Unit)} (h : laidMet Tryz.prog (("payoff/asm.modes", Rows.laid_payoff_asm_modes) :: rest) w) : Mds w := by
  have hg : Tryz.prog.globalNamed "payoff/asm.modes" = some 4 := by kernel_rfl
  have hty : (Tryz.prog.globals[4]?).map (·.type) = some 110 := by kernel_rfl
  obtain ⟨ps, ⟨g', t', cs, fuel, p, q, hg', ht', hvar, hd, _, _⟩, _⟩ := h
  obtain rfl := Option.some.inj (hg.symm.trans hg')
  obtain rfl := Option.some.inj (hty.symm.trans ht')
  rw [show (Rows.laid_payoff_asm_modes : DataW Unit) = .agg ((List.range 5).map mdQD) from rfl] at hd
  obtain ⟨xs, m, _, hx, hl, hlen, hel⟩ := DataW.trod_array Tryz.underlying110 hd
  rw [show Tryz.prog.cellsOf 110 = 5 by kernel_rfl] at hl
  rw [show Tryz.prog.cellsOf 9 = 1 by kernel_rfl] at hel
  have hx1 : xs.map (·.1) = (List.range 5).map mdQD := by
    have := congrArg Prod.fst hx
    simp only [DataW.agg.injEq] at this
    exact this.symm
  have key : ∀ k, k < 5 → (cs.toList.drop (k * 1)).take 1 = [.string (mdA k)] := by
    intro k hk
    have h1 := hel k hk
    have hk' : k < xs.length := by omega
    rw [List.getElem?_eq_getElem hk'] at h1
    have h2 : (xs[k]).1 = mdQD k := by
      have : (xs.map (·.1))[k]? = ((List.range 5).map mdQD)[k]? := by rw [hx1]
      simpa [hk', hk] using this
    obtain ⟨z0, r0, q0, _⟩ := DataW.trod_string Tryz.underlying9 h1
    rw [q0] at h2
    unfold mdQD at h2
    simp only [DataW.lit.injEq, Lit.string.injEq] at h2
    rw [r0]
    exact congrArg (fun t => [Value.string t]) (by
      have : z0.data.toList = (mdA k).data.toList := h2
      obtain ⟨⟨z0⟩⟩ := z0
      generalize mdA k = y at *
      obtain ⟨⟨y⟩⟩ := y
      simp at this
      rw [this])
  have cell : ∀ k, k < 5 → w.cell? ⟨4, k, none⟩ = some (.string (mdA k)) := by
    intro k hk
    rw [World.var?_cell hg hvar k]
    have := congrArg (fun l => l[0]?) (key k hk)
    simp only [List.getElem?_take_of_lt (show 0 < 1 by omega), List.getElem?_drop, Nat.mul_one, Nat.add_zero] at this
    simpa using this
  have lt : 4 < w.heap.size := by
    have c0 := cell 0 (by omega)
    unfold World.cell? at c0
    by_cases g : 4 < w.heap.size
    · exact g
    · rw [Array.getElem?_eq_none (by show w.heap.size ≤ 4; omega)] at c0
      simp at c0
  exact ⟨lt, cell⟩
theorem rmdQ_of_laid {w : World} {rest : List (String × DataW Unit)} (h : laidMet Tryz.prog (("payoff/payoffref13.modes", Rows.laid_payoff_payoffref13_modes) :: rest) w) : RMd w := by
  have hg : Tryz.prog.globalNamed "payoff/payoffref13.modes" = some 1 := by kernel_rfl
  have hty : (Tryz.prog.globals[1]?).map (·.type) = some 110 := by kernel_rfl
  obtain ⟨ps, ⟨g', t', cs, fuel, p, q, hg', ht', hvar, hd, _, _⟩, _⟩ := h
  obtain rfl := Option.some.inj (hg.symm.trans hg')
  obtain rfl := Option.some.inj (hty.symm.trans ht')
  rw [show (Rows.laid_payoff_payoffref13_modes : DataW Unit) = .agg ((List.range 5).map mdQD) from rfl] at hd
  obtain ⟨xs, m, _, hx, hl, hlen, hel⟩ := DataW.trod_array Tryz.underlying110 hd
  rw [show Tryz.prog.cellsOf 110 = 5 by kernel_rfl] at hl
  rw [show Tryz.prog.cellsOf 9 = 1 by kernel_rfl] at hel
  have hx1 : xs.map (·.1) = (List.range 5).map mdQD := by
    have := congrArg Prod.fst hx
    simp only [DataW.agg.injEq] at this
    exact this.symm
  have key : ∀ k, k < 5 → (cs.toList.drop (k * 1)).take 1 = [.string (mdA k)] := by
    intro k hk
    have h1 := hel k hk
    have hk' : k < xs.length := by omega
    rw [List.getElem?_eq_getElem hk'] at h1
    have h2 : (xs[k]).1 = mdQD k := by
      have : (xs.map (·.1))[k]? = ((List.range 5).map mdQD)[k]? := by rw [hx1]
      simpa [hk', hk] using this
    obtain ⟨z0, r0, q0, _⟩ := DataW.trod_string Tryz.underlying9 h1
    rw [q0] at h2
    unfold mdQD at h2
    simp only [DataW.lit.injEq, Lit.string.injEq] at h2
    rw [r0]
    exact congrArg (fun t => [Value.string t]) (by
      have : z0.data.toList = (mdA k).data.toList := h2
      obtain ⟨⟨z0⟩⟩ := z0
      generalize mdA k = y at *
      obtain ⟨⟨y⟩⟩ := y
      simp at this
      rw [this])
  have cell : ∀ k, k < 5 → w.cell? ⟨1, k, none⟩ = some (.string (mdA k)) := by
    intro k hk
    rw [World.var?_cell hg hvar k]
    have := congrArg (fun l => l[0]?) (key k hk)
    simp only [List.getElem?_take_of_lt (show 0 < 1 by omega), List.getElem?_drop, Nat.mul_one, Nat.add_zero] at this
    simpa using this
  have lt : 1 < w.heap.size := by
    have c0 := cell 0 (by omega)
    unfold World.cell? at c0
    by_cases g : 1 < w.heap.size
    · exact g
    · rw [Array.getElem?_eq_none (by show w.heap.size ≤ 1; omega)] at c0
      simp at c0
  exact ⟨lt, cell⟩
end Go.Proofs.YtkjmkhmjaknfhaaGreatDoor

namespace Go.Proofs.YtkjmkhmjaknfhaaGreatDoor
open Go.Shelf Go.RowKit

theorem starES : "*errors.errorString" = "*" ++ "errors.errorString" := by decide
theorem rowES (u : TypeId) (h : Tryz.prog.typeName? 3 u = some "*errors.errorString") : u = 212 :=
  typeName_ptr_named (nm := "errors.errorString") (by rw [← starES]; kernel_rfl) (by kernel_rfl) (by decide) u (by rw [← starES]; exact h)
theorem ev_of_laid {w : World} {r : List (String × DataW Unit)} (h : laidMet Tryz.prog (("strconv.ErrRange", Rows.laid_strconv_ErrRange) :: ("strconv.ErrSyntax", Rows.laid_strconv_ErrSyntax) :: r) w) : Ev w := by
  obtain ⟨a0, s0, hv0, -, -, -⟩ := laid_sentinel h (g := 8) (ti := 89) (by kernel_rfl) (by kernel_rfl) Tryz.underlying89 rowES Tryz.underlying212 Tryz.underlying214 rfl rfl Tryz.underlying9 (by kernel_rfl) (by kernel_rfl)
  obtain ⟨a1, s1, hv1, -, -, -⟩ := laid_sentinel h.tail (g := 7) (ti := 89) (by kernel_rfl) (by kernel_rfl) Tryz.underlying89 rowES Tryz.underlying212 Tryz.underlying214 rfl rfl Tryz.underlying9 (by kernel_rfl) (by kernel_rfl)
  exact ⟨⟨_, _, hv1⟩, _, _, hv0⟩
end Go.Proofs.YtkjmkhmjaknfhaaGreatDoor

namespace Go.Proofs.YtkjmkhmjaknfhaaGreatDoor

theorem pows_eq : (Rows.laid_internal_strconv_uint64pow10 : DataW Unit) = Lib.tabData .u64 Lib.pow10Tab := by kernel_rfl
theorem pows_of_laid {w : World} {rest : List (String × DataW Unit)} (h : laidMet Tryz.prog (("internal/strconv.uint64pow10", Rows.laid_internal_strconv_uint64pow10) :: rest) w) : Pows w := by
  rw [pows_eq] at h
  exact Lib.tabIs_of_head (g := 6) (t := 194) (e := 106) (n := 20) (by kernel_rfl) (by kernel_rfl) Tryz.underlying194 Tryz.underlying106 (by kernel_rfl) (by kernel_rfl) h
end Go.Proofs.YtkjmkhmjaknfhaaGreatDoor
