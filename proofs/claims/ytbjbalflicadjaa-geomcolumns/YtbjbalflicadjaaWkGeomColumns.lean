/-
  geom.Columns answers what the document's own function answers, columns and error, at every four ints; no condition.
-/
import Derived.Test.YtbjbalflicadjaaRows
import Derived.WalkKit
import Derived.ProofKit
import Derived.OpenShut
import Derived.ChangeOld
import Derived.Below
import Derived.BigQuiet
import Derived.Deep.CutRange
import Derived.Deep.QuietTactic
import Derived.Deep.RegionLaw
import Derived.Test.YtbjbalflicadjaaOpn
import Derived.Test.YtbjbalflicadjaaChecked
import Derived.Test.YtbjbalflicadjaaGeoCol
import Derived.Test.YtbjbalflicadjaaGeoColR
import Derived.Test.YtbjbalflicadjaaGeoSame
namespace Go.Proofs.Ytbjbalflicadjaa.geomColumns
open Go.ChangeShapes Go.WideShapes Go.ChangeAt Go.RowKit
set_option linter.unusedVariables false

set_option maxRecDepth 100000 in
set_option maxHeartbeats 4000000 in
theorem walk (a0 : Int) (a1 : Int) (a2 : Int) (a3 : Int) (w : World) (w0 : -9223372036854775808 ≤ a0 ∧ a0 ≤ 9223372036854775807) (w1 : -9223372036854775808 ≤ a1 ∧ a1 ≤ 9223372036854775807) (w2 : -9223372036854775808 ≤ a2 ∧ a2 ≤ 9223372036854775807) (w3 : -9223372036854775808 ≤ a3 ∧ a3 ≤ 9223372036854775807) :
    Calls Try.prog 5 #[.int .i64 a0, .int .i64 a1, .int .i64 a2, .int .i64 a3] w fun e w' => e = .returned (.bool true) ∧ Ext w w' := by
  go_enter Try.func5, Try.ntmps5
  go_wp2_with fail
  refine (Columns_any a0 a1 a2 a3 w).mono ?_
  rintro e w1 ⟨⟨b, n, k, rfl, hl, hn, hE⟩, hx1⟩
  have HE : Hid (Els w1 b 4 (gcL a0 a1 a2 a3)) := hE
  have HL : Hid ((gcL a0 a1 a2 a3).length = n) := hl
  clear hE hl
  go_wp2_with fail
  refine (GeomColumns_any a0 a1 a2 a3 _).mono ?_
  rintro e w2 ⟨⟨b', n', k', rfl, hl', hn', hE'⟩, hx2⟩
  have hnn : n' = n := hl'.symm.trans HL.out
  subst hnn
  have HE' : Hid (Els w2 b' 4 (gcL a0 a1 a2 a3)) := hE'
  clear hE' hl'
  have hk2 : (gcE a0 a1 a2 a3 == gcE a0 a1 a2 a3) = true := by simp
  go_wp2_with fail
  refine (lawSameC_any b b' n' k k' _ _ HL.out (by omega) (HE.out.ext hx2) HE'.out (gcL_col a0 a1 a2 a3)).mono ?_
  rintro e w3 ⟨rfl, hx3⟩
  go_wp2_with fail
  go_ret
  exact ⟨rfl, (hx1.trans hx2).trans hx3⟩
end Go.Proofs.Ytbjbalflicadjaa.geomColumns
