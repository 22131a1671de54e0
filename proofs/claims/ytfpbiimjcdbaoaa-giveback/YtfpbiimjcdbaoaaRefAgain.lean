/-
  quicksetref.spaceAgain: the units behind records, as the document says; in new memory.
-/
import Derived.Test.YtfpbiimjcdbaoaaChecked
import Derived.WalkKit
import Derived.BigQuiet
import Derived.Test.YtfpbiimjcdbaoaaSpaceB
namespace Go.Proofs.Ytfpbiimjcdbaoaa
open Go.RowKit Go.Deep
end Go.Proofs.Ytfpbiimjcdbaoaa
