import Derived.Test.YtglgdfgdfkeogaaDoorXAX
import Derived.Test.YtglgdfgdfkeogaaDoorXAV
namespace Go.Proofs.YtglgdfgdfkeogaaDoor
open Go.ChangeShapes Go.WideShapes Go.ChangeAt Go.RowKit Go.Deep
set_option linter.unusedVariables false

theorem ot_of_laid {w : World} {rest : List (String × DataW Unit)} (h : laidMet Tryd.prog (("payoff/payofflaw05.other", .agg [.lit (.bool true), .lit (.int .i64 99)]) :: rest) w) : Ot w ∧ 1 < w.heap.size := by
  have hg : Tryd.prog.globalNamed "payoff/payofflaw05.other" = some 1 := by kernel_rfl
  have hty : (Tryd.prog.globals[1]?).map (·.type) = some 53 := by kernel_rfl
  obtain ⟨ps, ⟨g', t', cs, fuel, p, q, hg', ht', hvar, hd, _, _⟩, _⟩ := h
  obtain rfl := Option.some.inj (hg.symm.trans hg')
  obtain rfl := Option.some.inj (hty.symm.trans ht')
  have e := trod_cl2 (bt := 4) (e := 3) Tryd.underlying53 rfl Tryd.underlying4 Tryd.underlying3 (by kernel_rfl) (by kernel_rfl) (by kernel_rfl) hd
  have c0 := World.var?_cell hg hvar 0
  have c1 := World.var?_cell hg hvar 1
  obtain ⟨l⟩ := cs
  simp at e
  subst e
  simp at c0 c1
  exact ⟨⟨c0, c1⟩, (addr_of c0).elim fun b hb => by obtain ⟨o, e, hlt⟩ := hb; injection e with e1; rw [e1]; exact hlt⟩
theorem askG_of {w : World} {ta tb : Tb} {sa : Option Addr} {sl : Nat} {xs : List Aq} (h0 : TbOk w ta) (h1 : TbOk w tb) (h2 : AqL w sa sl xs) (u0 : ta.ln ≤ 1048576) (u1 : tb.ln ≤ 1048576) (bh : Bh w) (ot : Ot w ∧ 1 < w.heap.size) : AskG w ta tb sa sl xs := ⟨h0, h1, h2, bh, ot.1, ot.2, u0, u1⟩
end Go.Proofs.YtglgdfgdfkeogaaDoor
