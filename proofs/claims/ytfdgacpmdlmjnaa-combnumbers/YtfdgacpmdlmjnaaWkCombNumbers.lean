/-
  At every number of type int and every list of ints comb.Number and the document's own answer are the same, number and error; no condition.
-/
import Derived.Test.YtfdgacpmdlmjnaaRows
import Derived.WalkKit
import Derived.ProofKit
import Derived.OpenShut
import Derived.ChangeOld
import Derived.Below
import Derived.BigQuiet
import Derived.Deep.CutRange
import Derived.Deep.QuietTactic
import Derived.Deep.RegionLaw
import Derived.Test.YtfdgacpmdlmjnaaOpn
import Derived.Test.YtfdgacpmdlmjnaaChecked
import Derived.Test.YtfdgacpmdlmjnaaCombNum
import Derived.Test.YtfdgacpmdlmjnaaRefNum
namespace Go.Proofs.Ytfdgacpmdlmjnaa.combNumbers
open Go.ChangeShapes Go.WideShapes Go.ChangeAt Go.RowKit
set_option linter.unusedVariables false

set_option maxRecDepth 100000 in
set_option maxHeartbeats 4000000 in
theorem walk (a0 : Int) (a1 : Option Addr) (n1 c1 : Nat) (f1 : Nat → Int) (w : World) (w0 : -9223372036854775808 ≤ a0 ∧ a0 ≤ 9223372036854775807) (h1 : Ints w a1 n1 f1) (b1 : n1 ≤ 9223372036854775807 ∧ ∀ i, i < n1 → -9223372036854775808 ≤ f1 i ∧ f1 i ≤ 9223372036854775807) :
    Calls Try.prog 6 #[.int .i64 a0, .slice a1 n1 c1] w fun e w' => e = .returned (.bool true) ∧ Ext w w' := by
  have HH : Hid (Ints w a1 n1 f1) := h1
  have hn : n1 ≤ 9223372036854775807 := b1.1
  clear h1 b1
  go_enter Try.func6, Try.ntmps6
  go_wp2_with fail
  refine (Number_any a0 a1 n1 c1 f1 w hn HH.out).mono ?_
  rintro e w1 ⟨rfl, rfl⟩
  go_wp2_with fail
  refine (RCombNumber_any a0 a1 n1 c1 f1 _ hn HH.out).mono ?_
  rintro e w2 ⟨rfl, hx⟩
  have k1 : (numV a0 n1 f1 == numV a0 n1 f1) = true := by simp
  have k2 : (numE a0 n1 f1 == numE a0 n1 f1) = true := by simp
  go_wp2_with fail
  go_ret
  exact ⟨rfl, hx⟩
end Go.Proofs.Ytfdgacpmdlmjnaa.combNumbers
