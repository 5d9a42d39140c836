/-
  THE TYPES OF ACTIONS AT THIS DUMP.
-/
import Derived.Test.YtjlnbhmiahegmaaWXT
import Derived.Test.YtjlnbhmiahegmaaOpenA
namespace Go.Proofs.Ytjlnbhmiahegmaa
open Go.RowKit
def att : AT Try.prog where
  T := xt
  B := 4
  hB := Try.underlying4
  cB := by kernel_rfl
  S := 9
  hS := Try.underlying9
  cS := by kernel_rfl
  St := 73
  fSt := _
  hSt := Try.underlying73
  lSt := rfl
  cSt := by kernel_rfl
  bSt := by kernel_rfl
  SS := 69
  hSS := Try.underlying69
  cSS := by kernel_rfl
  Ac := 71
  fAc := _
  hAc := Try.underlying71
  lAc := rfl
  cAc := by kernel_rfl
  bAc := by kernel_rfl
  SA := 39
  hSA := Try.underlying39
end Go.Proofs.Ytjlnbhmiahegmaa
