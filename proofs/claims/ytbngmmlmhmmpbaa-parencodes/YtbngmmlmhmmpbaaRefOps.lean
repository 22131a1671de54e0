/-
  quicksetref.mulOf of elements, and xor of elements, as the field's product and sum.
-/
import Derived.Test.YtbngmmlmhmmpbaaChecked
import Derived.WalkKit
import Derived.Test.YtbngmmlmhmmpbaaRefMul
import Derived.Test.YtbngmmlmhmmpbaaAlg
namespace Go.Proofs.Ytbngmmlmhmmpbaa
open Go.RowKit E
theorem mulOf_ev (x y : E) (w : World) : Calls Try.prog 24 #[.int .i64 (ev x), .int .i64 (ev y)] w fun e w' => e = .returned (.int .i64 (ev (mu x y))) ∧ w' = w := mulOf_any x.val y.val w x.lt
theorem xor_ev (x y : E) : bits .xor .i64 (ev x) (ev y) = ev (ad x y) := i64_xor x.val y.val (by have := x.lt; omega) (by have := y.lt; omega)
end Go.Proofs.Ytbngmmlmhmmpbaa
