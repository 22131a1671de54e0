/-
  span.First answers what the document's own function answers, place and error, at every list of ranges and every number; no condition.
-/
import Derived.Test.YthlkfaagbooababRows
import Derived.WalkKit
import Derived.ProofKit
import Derived.OpenShut
import Derived.ChangeOld
import Derived.Below
import Derived.BigQuiet
import Derived.Deep.CutRange
import Derived.Deep.QuietTactic
import Derived.Deep.RegionLaw
import Derived.Test.YthlkfaagbooababOpn
import Derived.Test.YthlkfaagbooababChecked
import Derived.Test.YthlkfaagbooababSpanOpen
import Derived.Test.YthlkfaagbooababSpanFst
namespace Go.Proofs.Ythlkfaagbooabab.spanFirsts
open Go.ChangeShapes Go.WideShapes Go.ChangeAt Go.RowKit
set_option linter.unusedVariables false

set_option maxRecDepth 100000 in
set_option maxHeartbeats 4000000 in
theorem walk (a0 : Option Addr) (n0 c0 : Nat) (L0 : List (Int × Int)) (a1 : Int) (w : World) (l0 : L0.length = n0) (h0 : Rngs w a0 L0) (b0 : Bdd L0) (k0 : n0 ≤ c0 ∧ c0 ≤ 9223372036854775807) (w1 : -9223372036854775808 ≤ a1 ∧ a1 ≤ 9223372036854775807) :
    Calls Try.prog 3 #[.slice a0 n0 c0, .int .i64 a1] w fun e w' => e = .returned (.bool true) ∧ Ext w w' := by
  go_enter Try.func3, Try.ntmps3
  go_wp2_with fail
  refine (SpFirst_any a0 n0 c0 L0 a1 w l0 (by omega) h0 b0).mono ?_
  rintro e w1 ⟨rfl, hx1⟩
  go_wp2_with fail
  refine (SpanFirst_any a0 n0 c0 L0 a1 _ l0 (by omega) (h0.ext hx1) b0).mono ?_
  rintro e w2 ⟨rfl, hx2⟩
  have hk1 : (fV L0 a1 == fV L0 a1) = true := by simp
  have hk2 : (fE L0 a1 == fE L0 a1) = true := by simp
  go_wp2_with fail
  go_ret
  exact ⟨rfl, hx1.trans hx2⟩
end Go.Proofs.Ythlkfaagbooabab.spanFirsts
