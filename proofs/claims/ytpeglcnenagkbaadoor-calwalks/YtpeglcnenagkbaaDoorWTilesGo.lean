/-
  CalTiles, whatever the input.
-/
import Derived.Test.YtpeglcnenagkbaaDoorWTiles2
import Derived.Test.YtpeglcnenagkbaaDoorWTzL
namespace Go.Proofs.YtpeglcnenagkbaaDoor
open Go.RowKit

theorem i64_in {n : Int} (h : (Lit.int .i64 n).wf = true) : -9223372036854775808 ≤ n ∧ n ≤ 9223372036854775807 := by
  have e1 : IntKind.i64.min = -9223372036854775808 := by decide
  have e2 : IntKind.i64.max = 9223372036854775807 := by decide
  simp [Lit.wf, e1, e2] at h
  omega
theorem calTiles_go (a b c : Int) (ha : Option Addr) (hc hcap : Nat) (zs : List Int) (w : World) (wa : (Lit.int .i64 a).wf = true) (wb : (Lit.int .i64 b).wf = true) (hH : Hol w ha hc hcap zs) (hT : Tz w) :
    Calls Tryd.prog 3 #[.int .i64 a, .int .i64 b, .int .i64 c, .slice ha hc hcap] w fun e w' => e = .returned (.bool true) ∧ Below w.heap.size w w' := by
  by_cases h : a ≤ b ∧ b ≤ c
  · exact calTiles_main a b c ha hc hcap zs w hT hH (i64_in wa).1 (i64_in wa).2 (i64_in wb).1 (i64_in wb).2 h.1 h.2
  · exact calTiles_back a b c ha hc hcap zs w hT (by omega)
end Go.Proofs.YtpeglcnenagkbaaDoor
