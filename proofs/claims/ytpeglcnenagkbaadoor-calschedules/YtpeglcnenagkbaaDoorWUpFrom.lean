/-
  WALK: upFrom: the iterator that it makes.
-/
import Derived.Test.YtpeglcnenagkbaaDoorPlainLow
namespace Go.Proofs.YtpeglcnenagkbaaDoor
open Go.RowKit
set_option linter.unusedVariables false
set_option linter.unusedSimpArgs false

set_option maxHeartbeats 1000000 in
theorem upFrom_any (first day : Int) (a : Option Addr) (c cap : Nat) (w : World) (h0 : 0 ≤ first) (h1 : first ≤ day) (h2 : day < 1000000) :
    Calls Tryd.prog 27 #[.agg #[.int .i64 first, .slice a c cap], .int .i64 day] w fun e w' =>
      e = .returned (.func (.func 48) #[] #[.pointer (some ⟨w.heap.size + 1, 0, none⟩), .pointer (some ⟨w.heap.size, 0, none⟩)]) ∧
      w' = (w.alloc (.cells #[.int .i64 first, .slice a c cap] 58)).alloc (.cells #[.int .i64 (day - first)] 3) := by
  go_enter Tryd.func27, Tryd.ntmps27
  go_wp2
  go_ret
  exact ⟨rfl, rfl⟩
end Go.Proofs.YtpeglcnenagkbaaDoor
