/-
  THE TABLE OF math/bits, OUT OF A ROW's LIST.
-/
import Derived.Test.YtfmpkcnmdoddnaaDoorWTz
import Derived.Test.YtfmpkcnmdoddnaaDoorWCal1
import Derived.Lib.LaidTab
import Derived.Stop.LaidErr
namespace Go.Proofs.YtfmpkcnmdoddnaaDoor

theorem tz_eq : (Rows.laid_math_bits_deBruijn64tab : DataW Unit) = Lib.tabData .u8 (Lib.deBruijn64tab.map (fun n : Nat => (n : Int))) := by kernel_rfl
theorem tz_of_laid {w : World} {rest : List (String × DataW Unit)} (h : laidMet Tryd.prog (("math/bits.deBruijn64tab", Rows.laid_math_bits_deBruijn64tab) :: rest) w) : Tz w := by
  rw [tz_eq] at h
  have t := Lib.tabIs_of_head (g := 1) (t := 87) (e := 5) (n := 64) (by kernel_rfl) (by kernel_rfl) Tryd.underlying87 Tryd.underlying5 (by kernel_rfl) (by kernel_rfl) h
  have hg : Tryd.prog.globalNamed "math/bits.deBruijn64tab" = some 1 := by kernel_rfl
  have hc := fun k (hk : k < 64) => t.cell hg k (show k < (Lib.deBruijn64tab.map (fun n : Nat => (n : Int))).length from hk)
  refine ⟨cellLt (hc 0 (by omega)), fun j hj => ?_⟩
  rw [hc j hj]
  have : ∀ j : Fin 64, (Lib.deBruijn64tab.map (fun n : Nat => (n : Int))).getD j.val 0 = ((Lib.deBruijn64tab.getD j.val 0 : Nat) : Int) := by decide +kernel
  rw [this ⟨j, hj⟩]
end Go.Proofs.YtfmpkcnmdoddnaaDoor
