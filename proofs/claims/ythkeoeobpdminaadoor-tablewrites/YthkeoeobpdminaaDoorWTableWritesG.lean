/-
  TableWrites, AT A TABLE AS IT CAME IN.
-/
import Derived.Test.YthkeoeobpdminaaDoorWTableWrites
import Derived.Test.YthkeoeobpdminaaDoorWPowsLaid
namespace Go.Proofs.YthkeoeobpdminaaDoor
open Go.RowKit
theorem tableWrites_go (t : Tb) (w : World) (h : TbOk w t) (hb : Bh w) (ht : Pows w) :
    Calls Tryd.prog 5 #[t.val] w fun e w' => e = .returned (.bool true) ∧ Below w.heap.size w w' :=
  tableWrites_walk t.an t.ar t.ln t.cn t.lr t.cr t.ss t.rs w h.nl h.rl h.nn h.rn hb ht
end Go.Proofs.YthkeoeobpdminaaDoor
