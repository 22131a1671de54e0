/-
  geom.Cost answers what the document's own function answers, number and error, at every three ints; no condition.
-/
import Derived.Test.YtbjbalflicadjaaRows
import Derived.WalkKit
import Derived.ProofKit
import Derived.OpenShut
import Derived.ChangeOld
import Derived.Below
import Derived.BigQuiet
import Derived.Deep.CutRange
import Derived.Deep.QuietTactic
import Derived.Deep.RegionLaw
import Derived.Test.YtbjbalflicadjaaOpn
import Derived.Test.YtbjbalflicadjaaChecked
import Derived.Test.YtbjbalflicadjaaGeoFn
import Derived.Test.YtbjbalflicadjaaGeoCst
namespace Go.Proofs.Ytbjbalflicadjaa.geomCosts
open Go.ChangeShapes Go.WideShapes Go.ChangeAt Go.RowKit
set_option linter.unusedVariables false

set_option maxRecDepth 100000 in
set_option maxHeartbeats 4000000 in
theorem walk (a0 : Int) (a1 : Int) (a2 : Int) (w : World) (w0 : -9223372036854775808 ≤ a0 ∧ a0 ≤ 9223372036854775807) (w1 : -9223372036854775808 ≤ a1 ∧ a1 ≤ 9223372036854775807) (w2 : -9223372036854775808 ≤ a2 ∧ a2 ≤ 9223372036854775807) :
    Calls Try.prog 3 #[.int .i64 a0, .int .i64 a1, .int .i64 a2] w fun e w' => e = .returned (.bool true) ∧ Ext w w' := by
  go_enter Try.func3, Try.ntmps3
  go_wp2_with fail
  refine (GeCost_any a0 a1 a2 w).mono ?_
  rintro e w1 ⟨rfl, hx1⟩
  go_wp2_with fail
  refine (GeomCost_any a0 a1 a2 _).mono ?_
  rintro e w2 ⟨rfl, hx2⟩
  have hk1 : (costV a0 a1 a2 == costV a0 a1 a2) = true := by simp
  have hk2 : (costE a0 a1 a2 == costE a0 a1 a2) = true := by simp
  go_wp2_with fail
  go_ret
  exact ⟨rfl, hx1.trans hx2⟩
end Go.Proofs.Ytbjbalflicadjaa.geomCosts
