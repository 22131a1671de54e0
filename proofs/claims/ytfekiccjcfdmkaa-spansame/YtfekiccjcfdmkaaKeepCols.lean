/-
  quicksetkeep.ColumnsOf: so many columns of bytes, all as long; in new memory.
-/
import Derived.Test.YtfekiccjcfdmkaaChecked
import Derived.WalkKit
import Derived.Deep.Cut
import Derived.Test.YtfekiccjcfdmkaaByb
import Derived.Test.YtfekiccjcfdmkaaMk
import Derived.Test.YtfekiccjcfdmkaaKeepPick
namespace Go.Proofs.Ytfekiccjcfdmkaa
open Go.RowKit Go.Deep E
theorem sizeB : Try.prog.cellsOf 5 = 1 := by kernel_rfl
/-- how long each column is -/
def colLen (l n : Nat) : Nat := if 64 < l / n then 64 else l / n
theorem colLen_le (l n : Nat) : colLen l n ≤ 64 ∧ colLen l n ≤ l / n := by unfold colLen; split <;> omega
end Go.Proofs.Ytfekiccjcfdmkaa
