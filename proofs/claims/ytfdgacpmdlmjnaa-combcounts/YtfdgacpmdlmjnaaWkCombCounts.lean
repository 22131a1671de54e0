/-
  comb.Count answers what the document's own function answers, number and error, at every two arguments of type int; no condition.
-/
import Derived.Test.YtfdgacpmdlmjnaaRows
import Derived.WalkKit
import Derived.ProofKit
import Derived.OpenShut
import Derived.ChangeOld
import Derived.Below
import Derived.BigQuiet
import Derived.Deep.CutRange
import Derived.Deep.QuietTactic
import Derived.Deep.RegionLaw
import Derived.Test.YtfdgacpmdlmjnaaOpn
import Derived.Test.YtfdgacpmdlmjnaaChecked
import Derived.Test.YtfdgacpmdlmjnaaRefComb
namespace Go.Proofs.Ytfdgacpmdlmjnaa.combCounts
open Go.ChangeShapes Go.WideShapes Go.ChangeAt Go.RowKit
set_option linter.unusedVariables false

set_option maxRecDepth 100000 in
set_option maxHeartbeats 4000000 in
theorem walk (a0 : Int) (a1 : Int) (w : World) (w0 : -9223372036854775808 ≤ a0 ∧ a0 ≤ 9223372036854775807) (w1 : -9223372036854775808 ≤ a1 ∧ a1 ≤ 9223372036854775807) :
    Calls Try.prog 4 #[.int .i64 a0, .int .i64 a1] w fun e w' => e = .returned (.bool true) ∧ Ext w w' := by
  go_enter Try.func4, Try.ntmps4
  go_wp2_with fail
  refine (Count_any a0 a1 w).mono ?_
  rintro e w1 ⟨rfl, rfl⟩
  go_wp2_with fail
  refine (CombCount_any a0 a1 _).mono ?_
  rintro e w2 ⟨rfl, hx⟩
  have k1 : (cntV a0 a1 == cntV a0 a1) = true := by simp
  have k2 : (cntE a0 a1 == cntE a0 a1) = true := by simp
  go_wp2_with fail
  go_ret
  exact ⟨rfl, hx⟩
end Go.Proofs.Ytfdgacpmdlmjnaa.combCounts
