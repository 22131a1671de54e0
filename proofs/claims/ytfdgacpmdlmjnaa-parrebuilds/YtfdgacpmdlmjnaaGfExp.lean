/-
  gf.Exp at every argument, as a plain function; the world only grows.
-/
import Derived.Test.YtfdgacpmdlmjnaaChecked
import Derived.WalkKit
import Derived.Test.YtfdgacpmdlmjnaaGfPow
namespace Go.Proofs.Ytfdgacpmdlmjnaa
open Go.RowKit
set_option maxRecDepth 100000 in
theorem Exp_any (n : Int) (w : World) (hn : n < 9223372036854775808) :
    Calls Try.prog 64 #[.int .i64 n] w fun e w' => e = .returned (.tuple #[.int .i64 (powV 2 n), .int .i64 (powE 2 n)]) ∧ Ext w w' := by
  go_enter Try.func64, Try.ntmps64
  go_wp2_with fail
  refine (Pow_any 2 n w hn).mono ?_
  rintro e w' ⟨rfl, hx⟩
  go_wp2_with fail
  go_ret2
  exact ⟨rfl, hx⟩
end Go.Proofs.Ytfdgacpmdlmjnaa
