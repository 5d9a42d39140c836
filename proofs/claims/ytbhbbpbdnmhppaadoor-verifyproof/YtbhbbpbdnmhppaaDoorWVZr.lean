/-
  VerifyProof.
-/
import Derived.Test.YtbhbbpbdnmhppaaDoorWVZq
namespace Go.Proofs.YtbhbbpbdnmhppaaDoor
open Go.RowKit
theorem verifyProof_any {w : World} {p : Pg} {zs zl zc : Int} (hp : PV w p) (is : i64 zs) (il : i64 zl) (ic : i64 zc) (hR : Rws w) (hU : Rul w) : Calls Tryd.prog 3 #[p.agg, .int .i64 zs, .int .i64 zl, .int .i64 zc] w fun e w' => e = .returned (.bool true) ∧ Below w.heap.size w w' := by
  by_cases h : (vfyA p).1 = 0
  · exact proof_ok hp hR hU zs zl zc is il ic h
  · exact proof_bad hp hR hU zs zl zc is il ic h
end Go.Proofs.YtbhbbpbdnmhppaaDoor
