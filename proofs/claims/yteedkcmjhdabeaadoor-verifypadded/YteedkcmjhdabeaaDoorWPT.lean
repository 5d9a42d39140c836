/-
  THE TYPES OF PROGRAMS AT THIS DUMP.
-/
import Derived.Test.YteedkcmjhdabeaaDoorRows
import Derived.Test.YteedkcmjhdabeaaDoorOpenP
namespace Go.Proofs.YteedkcmjhdabeaaDoor
open Go.RowKit
def pt : PT Tryd.prog where
  I := 3
  hI := Tryd.underlying3
  cI := by kernel_rfl
  bI := by kernel_rfl
  SI := 23
  hSI := Tryd.underlying23
  cSI := by kernel_rfl
  S := 9
  hS := Tryd.underlying9
  cS := by kernel_rfl
  bS := by kernel_rfl
  SS := 22
  hSS := Tryd.underlying22
  cSS := by kernel_rfl
  J := 38
  fJ := _
  hJ := Tryd.underlying38
  lJ := rfl
  cJ := by kernel_rfl
  bJ := by kernel_rfl
  SJ := 34
  hSJ := Tryd.underlying34
  cSJ := by kernel_rfl
  G := 36
  fG := _
  hG := Tryd.underlying36
  lG := rfl
  cG := by kernel_rfl
  bG := by kernel_rfl
  SG := 24
  hSG := Tryd.underlying24
  cSG := by kernel_rfl
  Q := 26
  fQ := _
  hQ := Tryd.underlying26
  lQ := rfl
  cQ := by kernel_rfl
end Go.Proofs.YteedkcmjhdabeaaDoor
