import Derived.Test.YtccjeipkljdhdaaGreatDoorRows
import Derived.Test.YtccjeipkljdhdaaGreatDoorXAA
namespace Go.Proofs.YtccjeipkljdhdaaGreatDoor
open Go.RowKit
def pt : PT Tryz.prog where
  I := 3
  hI := Tryz.underlying3
  cI := by kernel_rfl
  bI := by kernel_rfl
  SI := 24
  hSI := Tryz.underlying24
  cSI := by kernel_rfl
  S := 9
  hS := Tryz.underlying9
  cS := by kernel_rfl
  bS := by kernel_rfl
  SS := 23
  hSS := Tryz.underlying23
  cSS := by kernel_rfl
  J := 42
  fJ := _
  hJ := Tryz.underlying42
  lJ := rfl
  cJ := by kernel_rfl
  bJ := by kernel_rfl
  SJ := 37
  hSJ := Tryz.underlying37
  cSJ := by kernel_rfl
  G := 39
  fG := _
  hG := Tryz.underlying39
  lG := rfl
  cG := by kernel_rfl
  bG := by kernel_rfl
  SG := 25
  hSG := Tryz.underlying25
  cSG := by kernel_rfl
  Q := 27
  fQ := _
  hQ := Tryz.underlying27
  lQ := rfl
  cQ := by kernel_rfl
end Go.Proofs.YtccjeipkljdhdaaGreatDoor
