/-
  THE TYPES OF EXPRESSIONS OF LEGS AT THIS DUMP.
-/
import Derived.Test.YtjlnbhmiahegmaaRows
import Derived.Test.YtjlnbhmiahegmaaOpenX
namespace Go.Proofs.Ytjlnbhmiahegmaa
open Go.RowKit
def xt : XT Try.prog where
  I := 3
  hI := Try.underlying3
  cI := by kernel_rfl
  X := 24
  SX := 22
  fX := _
  hX := Try.underlying24
  lX := rfl
  cX := by kernel_rfl
  bX := by kernel_rfl
  hSX := Try.underlying22
  cSX := by kernel_rfl
end Go.Proofs.Ytjlnbhmiahegmaa
