/-
  quicksetref.Element: whether a number is from 0 to 255; the memory stays as it was.
-/
import Derived.Test.YtfnocamooapajaaChecked
import Derived.WalkKit
import Derived.Test.YtfnocamooapajaaGfElements
namespace Go.Proofs.Ytfnocamooapajaa
open Go.RowKit
set_option maxRecDepth 100000 in
theorem Element_any (a : Int) (w : World) :
    Calls Try.prog 27 #[.int .i64 a] w fun e w' => e = .returned (.bool (elB a)) ∧ w' = w := by
  by_cases h0 : 0 ≤ a
  · by_cases h1 : a < 256
    · have h2 : a ≤ 255 := by omega
      go_enter Try.func27, Try.ntmps27
      go_wp2
      go_ret
      rw [elB_of a (by omega) h1]
      exact ⟨rfl, rfl⟩
    · have h2 : ¬ a ≤ 255 := by omega
      go_enter Try.func27, Try.ntmps27
      go_wp2
      go_ret
      rw [elB_not a (by omega)]
      exact ⟨rfl, rfl⟩
  · go_enter Try.func27, Try.ntmps27
    go_wp2
    go_ret
    rw [elB_not a (by omega)]
    exact ⟨rfl, rfl⟩
end Go.Proofs.Ytfnocamooapajaa
