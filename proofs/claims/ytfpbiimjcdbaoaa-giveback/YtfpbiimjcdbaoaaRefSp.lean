/-
  quicksetref.spaceNow: is, put, stretches, count; flag: the document's own units.
-/
import Derived.Test.YtfpbiimjcdbaoaaChecked
import Derived.WalkKit
import Derived.BigQuiet
import Derived.Test.YtfpbiimjcdbaoaaSpaceR
namespace Go.Proofs.Ytfpbiimjcdbaoaa
open Go.RowKit Go.Deep
def flagV (b : Bool) : Int := if b then 1 else 0
end Go.Proofs.Ytfpbiimjcdbaoaa
