/-
  THE TYPES OF PROGRAMS AT THIS DUMP.
-/
import Derived.Test.YtnebopckldmmkaaRows
import Derived.Test.YtnebopckldmmkaaOpenP
namespace Go.Proofs.Ytnebopckldmmkaa
open Go.RowKit
def pt : PT Try.prog where
  I := 3
  hI := Try.underlying3
  cI := by kernel_rfl
  bI := by kernel_rfl
  SI := 23
  hSI := Try.underlying23
  cSI := by kernel_rfl
  S := 9
  hS := Try.underlying9
  cS := by kernel_rfl
  bS := by kernel_rfl
  SS := 22
  hSS := Try.underlying22
  cSS := by kernel_rfl
  J := 33
  fJ := _
  hJ := Try.underlying33
  lJ := rfl
  cJ := by kernel_rfl
  bJ := by kernel_rfl
  SJ := 29
  hSJ := Try.underlying29
  cSJ := by kernel_rfl
  G := 31
  fG := _
  hG := Try.underlying31
  lG := rfl
  cG := by kernel_rfl
  bG := by kernel_rfl
  SG := 24
  hSG := Try.underlying24
  cSG := by kernel_rfl
  Q := 26
  fQ := _
  hQ := Try.underlying26
  lQ := rfl
  cQ := by kernel_rfl
end Go.Proofs.Ytnebopckldmmkaa
