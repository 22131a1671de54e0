/-
  quicksetref.Element: whether a number is from 0 to 255; the memory stays as it was.
-/
import Derived.Test.YtfdgacpmdlmjnaaChecked
import Derived.WalkKit
import Derived.Test.YtfdgacpmdlmjnaaGfElements
namespace Go.Proofs.Ytfdgacpmdlmjnaa
open Go.RowKit
end Go.Proofs.Ytfdgacpmdlmjnaa
