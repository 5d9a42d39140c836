/-
  THE TABLE OF math/bits, OUT OF A ROW's LIST.
-/
import Derived.Test.YtpeglcnenagkbaaDoorWTz
import Derived.Lib.LaidTab
import Derived.Stop.LaidErr
namespace Go.Proofs.YtpeglcnenagkbaaDoor

theorem cellLtT {w : World} {a : Addr} {v : Value} (h : w.cell? a = some v) : a.block < w.heap.size := by
  unfold World.cell? at h
  by_cases g : a.block < w.heap.size
  · exact g
  · rw [Array.getElem?_eq_none (by omega)] at h
    simp at h

theorem tz_eq : (Rows.laid_math_bits_deBruijn64tab : DataW Unit) = Lib.tabData .u8 (Lib.deBruijn64tab.map (fun n : Nat => (n : Int))) := by kernel_rfl
theorem tz_of_laid {w : World} {rest : List (String × DataW Unit)} (h : laidMet Tryd.prog (("math/bits.deBruijn64tab", Rows.laid_math_bits_deBruijn64tab) :: rest) w) : Tz w := by
  rw [tz_eq] at h
  have t := Lib.tabIs_of_head (g := 0) (t := 85) (e := 5) (n := 64) (by kernel_rfl) (by kernel_rfl) Tryd.underlying85 Tryd.underlying5 (by kernel_rfl) (by kernel_rfl) h
  have hg : Tryd.prog.globalNamed "math/bits.deBruijn64tab" = some 0 := by kernel_rfl
  have hc := fun k (hk : k < 64) => t.cell hg k (show k < (Lib.deBruijn64tab.map (fun n : Nat => (n : Int))).length from hk)
  refine ⟨cellLtT (hc 0 (by omega)), fun j hj => ?_⟩
  rw [hc j hj]
  have : ∀ j : Fin 64, (Lib.deBruijn64tab.map (fun n : Nat => (n : Int))).getD j.val 0 = ((Lib.deBruijn64tab.getD j.val 0 : Nat) : Int) := by decide +kernel
  rw [this ⟨j, hj⟩]
end Go.Proofs.YtpeglcnenagkbaaDoor
