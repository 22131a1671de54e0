/-
  quicksetkeep.side and MatrixOf: a matrix of so many rows and columns, of elements; the world only grows.
-/
import Derived.Test.YtfdgacpmdlmjnaaChecked
import Derived.WalkKit
import Derived.BigQuiet
import Derived.Test.YtfdgacpmdlmjnaaKeepPick
import Derived.Test.YtfdgacpmdlmjnaaMk
import Derived.Test.YtfdgacpmdlmjnaaMm
import Derived.Test.YtfdgacpmdlmjnaaAlg
import Derived.Test.YtfdgacpmdlmjnaaQuiets
import Derived.Test.YtfdgacpmdlmjnaaKeepMatBase
namespace Go.Proofs.Ytfdgacpmdlmjnaa
open Go.RowKit Go.Deep E
end Go.Proofs.Ytfdgacpmdlmjnaa
