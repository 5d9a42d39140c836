import Derived.Test.YtajocakmmgpoaaaGreatDoorXAE
import Derived.Lib.LaidTab
import Derived.Stop.LaidErr
import Derived.Test.YtajocakmmgpoaaaGreatDoorXAI
import Derived.Shelf.Strconv.ErrVarAll
namespace Go.Proofs.YtajocakmmgpoaaaGreatDoor

theorem pows_eq : (Rows.laid_internal_strconv_uint64pow10 : DataW Unit) = Lib.tabData .u64 Lib.pow10Tab := by kernel_rfl
theorem pows_of_laid {w : World} {rest : List (String × DataW Unit)} (h : laidMet Tryz.prog (("internal/strconv.uint64pow10", Rows.laid_internal_strconv_uint64pow10) :: rest) w) : Pows w := by
  rw [pows_eq] at h
  exact Lib.tabIs_of_head (g := 1) (t := 116) (e := 93) (n := 20) (by kernel_rfl) (by kernel_rfl) Tryz.underlying116 Tryz.underlying93 (by kernel_rfl) (by kernel_rfl) h
end Go.Proofs.YtajocakmmgpoaaaGreatDoor

namespace Go.Proofs.YtajocakmmgpoaaaGreatDoor
open Go.Shelf Go.RowKit

theorem starES : "*errors.errorString" = "*" ++ "errors.errorString" := by decide
theorem rowES (u : TypeId) (h : Tryz.prog.typeName? 3 u = some "*errors.errorString") : u = 152 :=
  typeName_ptr_named (nm := "errors.errorString") (by rw [← starES]; kernel_rfl) (by kernel_rfl) (by decide) u (by rw [← starES]; exact h)
theorem ev_of_laid {w : World} {r : List (String × DataW Unit)} (h : laidMet Tryz.prog (("strconv.ErrRange", Rows.laid_strconv_ErrRange) :: ("strconv.ErrSyntax", Rows.laid_strconv_ErrSyntax) :: r) w) : Ev w := by
  obtain ⟨a0, s0, hv0, -, -, -⟩ := laid_sentinel h (g := 6) (ti := 111) (by kernel_rfl) (by kernel_rfl) Tryz.underlying111 rowES Tryz.underlying152 Tryz.underlying154 rfl rfl Tryz.underlying9 (by kernel_rfl) (by kernel_rfl)
  obtain ⟨a1, s1, hv1, -, -, -⟩ := laid_sentinel h.tail (g := 5) (ti := 111) (by kernel_rfl) (by kernel_rfl) Tryz.underlying111 rowES Tryz.underlying152 Tryz.underlying154 rfl rfl Tryz.underlying9 (by kernel_rfl) (by kernel_rfl)
  exact ⟨⟨_, _, hv1⟩, _, _, hv0⟩
end Go.Proofs.YtajocakmmgpoaaaGreatDoor
