/-
  No cell of these rows narrows 'for every input' (looked for: loops, veiled, ifaces, maps, wideKeys, modest, calm, conditions, laid).
  DERIVED. THE GIVEN ROWS OF THIS SEAT. 3 by the template 'for every input the law returns true; each argument reads behind the call as it read before'; 0 by the template 'total and deterministic' (their statements: YtfnocamooapajabTotals.lean).
  GIVEN WITH THE SEED: the statements are not yours to turn. If you find one false, say at which input.
  Laid BY PROGRAM, IN A SANDBOX (cutbox-rows.mjs): the forced cells as the released guide's own fill.sh prints them over the translation 5709cf9d1ec6f633… (all of the seat's roots in one cut). By AI agents, Wed Nov 11 2026. No macro, syntax, notation, axiom, sorry.
-/
import Derived.Test.YtfnocamooapajabChecked
import GoSem.Claim
import GoSem.ClaimJoined
import GoSem.ClaimMapViews
import Derived.JoinedTies
import Derived.KernelRfl
namespace Go.Proofs.Ytfnocamooapajab
/- THE CELL 'sum', in the pinned program and in every row, IS THE sha256 OF THE DUMP (.gsa) THAT YtfnocamooapajabProg.lean LOADS. Nothing in Lean hashes anything: it is a label: what it is worth is what the hold of that sum in a sandbox is worth. -/
noncomputable def Try.pinned : Pinned := { name := "ytfnocamooapajab", sum := "5709cf9d1ec6f6333d9df3e8de831587b6b50302a37f7bcd9d5c04b49484b8f9", checked := Try.checked }
namespace Rows
def none {H : Type} : Left H := { results := [], args := [] }

/-- 'quicksetkeep.MatBoth': WHATEVER THE INPUT: true; the input reads as it did. -/
def matBothSpec : ChangeSpec := { name := "matBoth", fn := fun _ => fun
  | [d1, d2] => { results := [.lit (.bool true)], args := [d1, d2] }
  | _ => none }
def matBothRow : OpenClaim := { program := "ytfnocamooapajab", sum := "5709cf9d1ec6f6333d9df3e8de831587b6b50302a37f7bcd9d5c04b49484b8f9", func := "quickset/quicksetkeep.MatBoth", spec := "matBoth", unfollowed := true, recurses := true, apart := false }
def MatBothSaid : Prop := matBothRow.holds Try.pinned (OpenSpec.ofChange matBothSpec)

/-- ITS FALSE NEIGHBOUR: 'it returns false'. Refute it at one input. -/
def matBothWrong : ChangeSpec := { name := "matBoth", fn := fun _ => fun
  | [d1, d2] => { results := [.lit (.bool false)], args := [d1, d2] }
  | _ => none }
def MatBothWrongFalsely : Prop := matBothRow.holds Try.pinned (OpenSpec.ofChange matBothWrong)

/-- 'quicksetkeep.MatProduct': WHATEVER THE INPUT: true; the input reads as it did. -/
def matProductSpec : ChangeSpec := { name := "matProduct", fn := fun _ => fun
  | [d1, d2, d3] => { results := [.lit (.bool true)], args := [d1, d2, d3] }
  | _ => none }
def matProductRow : OpenClaim := { program := "ytfnocamooapajab", sum := "5709cf9d1ec6f6333d9df3e8de831587b6b50302a37f7bcd9d5c04b49484b8f9", func := "quickset/quicksetkeep.MatProduct", spec := "matProduct", unfollowed := true, recurses := true, apart := false }
def MatProductSaid : Prop := matProductRow.holds Try.pinned (OpenSpec.ofChange matProductSpec)

/-- ITS FALSE NEIGHBOUR: 'it returns false'. Refute it at one input. -/
def matProductWrong : ChangeSpec := { name := "matProduct", fn := fun _ => fun
  | [d1, d2, d3] => { results := [.lit (.bool false)], args := [d1, d2, d3] }
  | _ => none }
def MatProductWrongFalsely : Prop := matProductRow.holds Try.pinned (OpenSpec.ofChange matProductWrong)

/-- 'quicksetkeep.MatPowers': WHATEVER THE INPUT: true; the input reads as it did. -/
def matPowersSpec : ChangeSpec := { name := "matPowers", fn := fun _ => fun
  | [d1, d2] => { results := [.lit (.bool true)], args := [d1, d2] }
  | _ => none }
def matPowersRow : OpenClaim := { program := "ytfnocamooapajab", sum := "5709cf9d1ec6f6333d9df3e8de831587b6b50302a37f7bcd9d5c04b49484b8f9", func := "quickset/quicksetkeep.MatPowers", spec := "matPowers", unfollowed := true, recurses := true, apart := false }
def MatPowersSaid : Prop := matPowersRow.holds Try.pinned (OpenSpec.ofChange matPowersSpec)

/-- ITS FALSE NEIGHBOUR: 'it returns false'. Refute it at one input. -/
def matPowersWrong : ChangeSpec := { name := "matPowers", fn := fun _ => fun
  | [d1, d2] => { results := [.lit (.bool false)], args := [d1, d2] }
  | _ => none }
def MatPowersWrongFalsely : Prop := matPowersRow.holds Try.pinned (OpenSpec.ofChange matPowersWrong)

/- THE SECOND FORM. 'bulk': how many values and letters a reading holds, each counted each time it is reached (what is shared counts as often as it is met; a slice's spare places count too). A statement '..UptoSaid' is the law's where the arguments, and the package variables that the reading takes, are together of bulk at most 1048576: NARROWER than '..Said'. Prove '..Said' where nothing that the law and all that it calls make is longer than what came in: it says more and counts as full. Else prove '..UptoSaid'. A law counts once. -/
mutual
def uptoBulk {H : Type} : DataW H → Nat
  | .lit (.string bytes) => bytes.length + 1
  | .lit _ => 1
  | .nil => 1
  | .ptr d => uptoBulk d + 1
  | .slice elems spare => uptoBulkAll elems + uptoBulkAll spare + 1
  | .agg parts => uptoBulkAll parts + 1
  | .iface _ d => uptoBulk d + 1
  | .map entries => uptoBulkEntries entries + 1
  | .held _ => 1
def uptoBulkAll {H : Type} : List (DataW H) → Nat
  | [] => 0
  | d :: r => uptoBulk d + uptoBulkAll r
def uptoBulkEntries {H : Type} : List (Lit × DataW H) → Nat
  | [] => 0
  | x :: r => uptoBulkEntry x + uptoBulkEntries r
def uptoBulkEntry {H : Type} : Lit × DataW H → Nat
  | (.string bytes, d) => bytes.length + uptoBulk d + 1
  | (_, d) => uptoBulk d + 1
 end
def uptoSmall : (H : Type) → List (DataW H) → Bool := fun _ ds => decide (uptoBulkAll ds ≤ 1048576)
def OpenSpec.upto (s : _root_.Go.ChangeSpec) : _root_.Go.OpenSpec := { _root_.Go.OpenSpec.ofChange s with cond := some uptoSmall }

/-- 'quicksetkeep.MatBoth', WHERE WHAT IT READS IS OF BULK AT MOST 1048576: true; the input reads as it did. -/
def matBothUptoRow : OpenClaim := { program := "ytfnocamooapajab", sum := "5709cf9d1ec6f6333d9df3e8de831587b6b50302a37f7bcd9d5c04b49484b8f9", func := "quickset/quicksetkeep.MatBoth", spec := "matBoth", unfollowed := true, recurses := true, apart := false, narrowed := true }
def MatBothUptoSaid : Prop := matBothUptoRow.holds Try.pinned (OpenSpec.upto matBothSpec)

/-- 'quicksetkeep.MatProduct', WHERE WHAT IT READS IS OF BULK AT MOST 1048576: true; the input reads as it did. -/
def matProductUptoRow : OpenClaim := { program := "ytfnocamooapajab", sum := "5709cf9d1ec6f6333d9df3e8de831587b6b50302a37f7bcd9d5c04b49484b8f9", func := "quickset/quicksetkeep.MatProduct", spec := "matProduct", unfollowed := true, recurses := true, apart := false, narrowed := true }
def MatProductUptoSaid : Prop := matProductUptoRow.holds Try.pinned (OpenSpec.upto matProductSpec)

/-- 'quicksetkeep.MatPowers', WHERE WHAT IT READS IS OF BULK AT MOST 1048576: true; the input reads as it did. -/
def matPowersUptoRow : OpenClaim := { program := "ytfnocamooapajab", sum := "5709cf9d1ec6f6333d9df3e8de831587b6b50302a37f7bcd9d5c04b49484b8f9", func := "quickset/quicksetkeep.MatPowers", spec := "matPowers", unfollowed := true, recurses := true, apart := false, narrowed := true }
def MatPowersUptoSaid : Prop := matPowersUptoRow.holds Try.pinned (OpenSpec.upto matPowersSpec)

end Rows
end Go.Proofs.Ytfnocamooapajab
