/-
  quicksetkeep.side and MatrixOf: a matrix of so many rows and columns, of elements; the world only grows.
-/
import Derived.Test.YtbngmmlmhmmpbaaChecked
import Derived.WalkKit
import Derived.BigQuiet
import Derived.Test.YtbngmmlmhmmpbaaKeepPick
import Derived.Test.YtbngmmlmhmmpbaaMk
import Derived.Test.YtbngmmlmhmmpbaaMm
import Derived.Test.YtbngmmlmhmmpbaaAlg
import Derived.Test.YtbngmmlmhmmpbaaQuiets
import Derived.Test.YtbngmmlmhmmpbaaKeepMatBase
namespace Go.Proofs.Ytbngmmlmhmmpbaa
open Go.RowKit Go.Deep E
end Go.Proofs.Ytbngmmlmhmmpbaa
