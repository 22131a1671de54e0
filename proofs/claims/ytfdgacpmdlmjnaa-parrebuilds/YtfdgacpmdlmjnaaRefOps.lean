/-
  quicksetref.mulOf of elements, and xor of elements, as the field's product and sum.
-/
import Derived.Test.YtfdgacpmdlmjnaaChecked
import Derived.WalkKit
import Derived.Test.YtfdgacpmdlmjnaaRefMul
import Derived.Test.YtfdgacpmdlmjnaaAlg
namespace Go.Proofs.Ytfdgacpmdlmjnaa
open Go.RowKit E
theorem mulOf_ev (x y : E) (w : World) : Calls Try.prog 35 #[.int .i64 (ev x), .int .i64 (ev y)] w fun e w' => e = .returned (.int .i64 (ev (mu x y))) ∧ w' = w := mulOf_any x.val y.val w x.lt
theorem xor_ev (x y : E) : bits .xor .i64 (ev x) (ev y) = ev (ad x y) := i64_xor x.val y.val (by have := x.lt; omega) (by have := y.lt; omega)
end Go.Proofs.Ytfdgacpmdlmjnaa
