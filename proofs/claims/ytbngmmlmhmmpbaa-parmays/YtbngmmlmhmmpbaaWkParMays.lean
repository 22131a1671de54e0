/-
  At every list of columns par.May and the document's own answer are the same; no condition.
-/
import Derived.Test.YtbngmmlmhmmpbaaRows
import Derived.WalkKit
import Derived.ProofKit
import Derived.OpenShut
import Derived.ChangeOld
import Derived.Below
import Derived.BigQuiet
import Derived.Deep.CutRange
import Derived.Deep.QuietTactic
import Derived.Deep.RegionLaw
import Derived.Test.YtbngmmlmhmmpbaaOpn
import Derived.Test.YtbngmmlmhmmpbaaChecked
import Derived.Test.YtbngmmlmhmmpbaaParMay
import Derived.Test.YtbngmmlmhmmpbaaRefPMay
namespace Go.Proofs.Ytbngmmlmhmmpbaa.parMays
open Go.ChangeShapes Go.WideShapes Go.ChangeAt Go.RowKit Go.Deep E
set_option linter.unusedVariables false

set_option maxRecDepth 100000 in
set_option maxHeartbeats 4000000 in
theorem walk (a0 : Option Addr) (n0 c0 : Nat) (A0 : Nat → Option Addr) (L0 C0 : Nat → Nat) (F0 : Nat → Nat → E) (w : World) (h0 : Cols w a0 n0 A0 L0 C0 F0) (b0 : n0 ≤ c0 ∧ c0 ≤ 9223372036854775807 ∧ ∀ r, r < n0 → L0 r ≤ C0 r ∧ C0 r ≤ 9223372036854775807) :
    Calls Try.prog 3 #[.slice a0 n0 c0] w fun e w' => e = .returned (.bool true) ∧ Ext w w' := by
  have HH : Hid (Cols w a0 n0 A0 L0 C0 F0) := h0
  have hn : n0 ≤ 9223372036854775807 := Nat.le_trans b0.1 b0.2.1
  clear h0 b0
  go_enter Try.func3, Try.ntmps3
  go_wp2_with fail
  refine (pMay_any a0 n0 c0 A0 L0 C0 F0 _ hn HH.out).mono ?_
  rintro e w1 ⟨rfl, hx1⟩
  go_wp2_with fail
  refine (ParMay_any a0 n0 c0 A0 L0 C0 F0 _ hn (HH.out.ext hx1)).mono ?_
  rintro e w2 ⟨rfl, rfl⟩
  go_wp2_with fail
  go_ret
  exact ⟨ret_boolB (by simp), hx1⟩
end Go.Proofs.Ytbngmmlmhmmpbaa.parMays
