/-
  span.others: the set of all numbers that a range has not; in new memory.
-/
import Derived.Test.YtfekiccjcfdmkabChecked
import Derived.WalkKit
import Derived.BigQuiet
import Derived.Test.YtfekiccjcfdmkabSpanBtw
namespace Go.Proofs.Ytfekiccjcfdmkab
open Go.RowKit Go.Deep
def othA (x : Int) : List (Int × Int) := if 0 < x then [(0, x)] else []
def othL (x y : Int) : List (Int × Int) := othA x ++ (if y < 1048576 then [(y, 1048576)] else [])
def OthRes (w : World) (x y : Int) (v : Value) (w' : World) : Prop := w'.ownsRow w.heap.size 58 2 v (othL x y).length (fl (othL x y)) ∧ Ext w w'
end Go.Proofs.Ytfekiccjcfdmkab
