/-
  TableValid, AT A TABLE AS IT CAME IN.
-/
import Derived.Test.YthkeoeobpdminaaDoorWTableValid
namespace Go.Proofs.YthkeoeobpdminaaDoor
open Go.RowKit
theorem tableValid_go (t : Tb) (w : World) (h : TbOk w t) (hb : Bh w) :
    Calls Tryd.prog 3 #[t.val] w fun e w' => e = .returned (.bool true) ∧ Below w.heap.size w w' :=
  tableValid_walk t.an t.ar t.ln t.cn t.lr t.cr t.ss t.rs w h.nl h.rl h.nn h.rn hb
end Go.Proofs.YthkeoeobpdminaaDoor
