/-
  quicksetkeep.side and MatrixOf: a matrix of so many rows and columns, of elements; the world only grows.
-/
import Derived.Test.YthgbfakmkdifbaaChecked
import Derived.WalkKit
import Derived.BigQuiet
import Derived.Test.YthgbfakmkdifbaaKeepPick
import Derived.Test.YthgbfakmkdifbaaMk
import Derived.Test.YthgbfakmkdifbaaMm
import Derived.Test.YthgbfakmkdifbaaAlg
import Derived.Test.YthgbfakmkdifbaaQuiets
import Derived.Test.YthgbfakmkdifbaaKeepMatBase
namespace Go.Proofs.Ythgbfakmkdifbaa
open Go.RowKit Go.Deep E
end Go.Proofs.Ythgbfakmkdifbaa
