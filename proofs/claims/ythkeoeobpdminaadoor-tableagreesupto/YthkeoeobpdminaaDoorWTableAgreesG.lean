/-
  TableAgrees, AT TABLES AS THEY CAME IN.
-/
import Derived.Test.YthkeoeobpdminaaDoorWTableAgrees
import Derived.Test.YthkeoeobpdminaaDoorOpenTab2
namespace Go.Proofs.YthkeoeobpdminaaDoor
open Go.RowKit
theorem tableAgrees_go (t u : Tb) (last : Int) (w : World) (h : TbOk w t) (k : TbOk w u) (z1 : t.ln ≤ 1048576) (z2 : u.ln ≤ 1048576) (hb : Bh w) :
    Calls Tryd.prog 4 #[t.val, u.val, .int .i64 last] w fun e w' => e = .returned (.bool true) ∧ Below w.heap.size w w' :=
  tableAgrees_walk t u last w h k hb (by omega)
end Go.Proofs.YthkeoeobpdminaaDoor
