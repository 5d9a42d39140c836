import Derived.Test.YtldplmchgmoopaaDoorXBA
import Derived.Test.YtldplmchgmoopaaDoorXAY
import Derived.Test.YtldplmchgmoopaaDoorXAD
import Derived.Lib.LaidTab
import Derived.Stop.LaidErr
import Derived.Test.YtldplmchgmoopaaDoorXAH
import Derived.Shelf.Strconv.ErrVarAll
namespace Go.Proofs.YtldplmchgmoopaaDoor
open Go.ChangeShapes Go.WideShapes Go.ChangeAt Go.RowKit Go.Deep
set_option linter.unusedVariables false

theorem ot_of_laid {w : World} {rest : List (String × DataW Unit)} (h : laidMet Tryd.prog (("payoff/payofflaw05.other", .agg [.lit (.bool true), .lit (.int .i64 99)]) :: rest) w) : Ot w ∧ 0 < w.heap.size := by
  have hg : Tryd.prog.globalNamed "payoff/payofflaw05.other" = some 0 := by kernel_rfl
  have hty : (Tryd.prog.globals[0]?).map (·.type) = some 65 := by kernel_rfl
  obtain ⟨ps, ⟨g', t', cs, fuel, p, q, hg', ht', hvar, hd, _, _⟩, _⟩ := h
  obtain rfl := Option.some.inj (hg.symm.trans hg')
  obtain rfl := Option.some.inj (hty.symm.trans ht')
  have e := trod_cl2 (bt := 4) (e := 3) Tryd.underlying65 rfl Tryd.underlying4 Tryd.underlying3 (by kernel_rfl) (by kernel_rfl) (by kernel_rfl) hd
  have c0 := World.var?_cell hg hvar 0
  have c1 := World.var?_cell hg hvar 1
  obtain ⟨l⟩ := cs
  simp at e
  subst e
  simp at c0 c1
  exact ⟨⟨c0, c1⟩, (addr_of c0).elim fun b hb => by obtain ⟨o, e, hlt⟩ := hb; injection e with e1; rw [e1]; exact hlt⟩
end Go.Proofs.YtldplmchgmoopaaDoor

namespace Go.Proofs.YtldplmchgmoopaaDoor

theorem pows_eq : (Rows.laid_internal_strconv_uint64pow10 : DataW Unit) = Lib.tabData .u64 Lib.pow10Tab := by kernel_rfl
theorem pows_of_laid {w : World} {rest : List (String × DataW Unit)} (h : laidMet Tryd.prog (("internal/strconv.uint64pow10", Rows.laid_internal_strconv_uint64pow10) :: rest) w) : Pows w := by
  rw [pows_eq] at h
  exact Lib.tabIs_of_head (g := 4) (t := 148) (e := 109) (n := 20) (by kernel_rfl) (by kernel_rfl) Tryd.underlying148 Tryd.underlying109 (by kernel_rfl) (by kernel_rfl) h
end Go.Proofs.YtldplmchgmoopaaDoor

namespace Go.Proofs.YtldplmchgmoopaaDoor
open Go.Shelf Go.RowKit

theorem starES : "*errors.errorString" = "*" ++ "errors.errorString" := by decide
theorem rowES (u : TypeId) (h : Tryd.prog.typeName? 3 u = some "*errors.errorString") : u = 143 :=
  typeName_ptr_named (nm := "errors.errorString") (by rw [← starES]; kernel_rfl) (by kernel_rfl) (by decide) u (by rw [← starES]; exact h)
theorem ev_of_laid {w : World} {r : List (String × DataW Unit)} (h : laidMet Tryd.prog (("strconv.ErrRange", Rows.laid_strconv_ErrRange) :: ("strconv.ErrSyntax", Rows.laid_strconv_ErrSyntax) :: r) w) : Ev w := by
  obtain ⟨a0, s0, hv0, -, -, -⟩ := laid_sentinel h (g := 3) (ti := 102) (by kernel_rfl) (by kernel_rfl) Tryd.underlying102 rowES Tryd.underlying143 Tryd.underlying145 rfl rfl Tryd.underlying9 (by kernel_rfl) (by kernel_rfl)
  obtain ⟨a1, s1, hv1, -, -, -⟩ := laid_sentinel h.tail (g := 2) (ti := 102) (by kernel_rfl) (by kernel_rfl) Tryd.underlying102 rowES Tryd.underlying143 Tryd.underlying145 rfl rfl Tryd.underlying9 (by kernel_rfl) (by kernel_rfl)
  exact ⟨⟨_, _, hv1⟩, _, _, hv0⟩
end Go.Proofs.YtldplmchgmoopaaDoor
