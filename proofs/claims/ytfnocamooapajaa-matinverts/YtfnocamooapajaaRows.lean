/-
  No cell of these rows narrows 'for every input' (looked for: loops, veiled, ifaces, maps, wideKeys, modest, calm, conditions, laid).
  DERIVED. THE GIVEN ROWS OF THIS SEAT. 6 by the template 'for every input the law returns true; each argument reads behind the call as it read before'; 0 by the template 'total and deterministic' (their statements: YtfnocamooapajaaTotals.lean).
  GIVEN WITH THE SEED: the statements are not yours to turn. If you find one false, say at which input.
  Laid BY PROGRAM, IN A SANDBOX (cutbox-rows.mjs): the forced cells as the released guide's own fill.sh prints them over the translation 6f62ff0a86f3d39e… (all of the seat's roots in one cut). By AI agents, Wed Nov 11 2026. No macro, syntax, notation, axiom, sorry.
-/
import Derived.Test.YtfnocamooapajaaChecked
import GoSem.Claim
import GoSem.ClaimJoined
import GoSem.ClaimMapViews
import Derived.JoinedTies
import Derived.KernelRfl
namespace Go.Proofs.Ytfnocamooapajaa
/- THE CELL 'sum', in the pinned program and in every row, IS THE sha256 OF THE DUMP (.gsa) THAT YtfnocamooapajaaProg.lean LOADS. Nothing in Lean hashes anything: it is a label: what it is worth is what the hold of that sum in a sandbox is worth. -/
noncomputable def Try.pinned : Pinned := { name := "ytfnocamooapajaa", sum := "6f62ff0a86f3d39e9a6292b7c149cea443c552c31eae8c5f1c37acad1faf8269", checked := Try.checked }
namespace Rows
def none {H : Type} : Left H := { results := [], args := [] }

/-- 'quicksetlaw.MatMays': WHATEVER THE INPUT: true; the input reads as it did. -/
def matMaysSpec : ChangeSpec := { name := "matMays", fn := fun _ => fun
  | [d] => { results := [.lit (.bool true)], args := [d] }
  | _ => none }
def matMaysRow : OpenClaim := { program := "ytfnocamooapajaa", sum := "6f62ff0a86f3d39e9a6292b7c149cea443c552c31eae8c5f1c37acad1faf8269", func := "quickset/quicksetlaw.MatMays", spec := "matMays", unfollowed := true, recurses := true, apart := false }
def MatMaysSaid : Prop := matMaysRow.holds Try.pinned (OpenSpec.ofChange matMaysSpec)

/-- ITS FALSE NEIGHBOUR: 'it returns false'. Refute it at one input. -/
def matMaysWrong : ChangeSpec := { name := "matMays", fn := fun _ => fun
  | [d] => { results := [.lit (.bool false)], args := [d] }
  | _ => none }
def MatMaysWrongFalsely : Prop := matMaysRow.holds Try.pinned (OpenSpec.ofChange matMaysWrong)

/-- 'quicksetlaw.MatMuls': WHATEVER THE INPUT: true; the input reads as it did. -/
def matMulsSpec : ChangeSpec := { name := "matMuls", fn := fun _ => fun
  | [d1, d2] => { results := [.lit (.bool true)], args := [d1, d2] }
  | _ => none }
def matMulsRow : OpenClaim := { program := "ytfnocamooapajaa", sum := "6f62ff0a86f3d39e9a6292b7c149cea443c552c31eae8c5f1c37acad1faf8269", func := "quickset/quicksetlaw.MatMuls", spec := "matMuls", unfollowed := true, recurses := true, apart := false }
def MatMulsSaid : Prop := matMulsRow.holds Try.pinned (OpenSpec.ofChange matMulsSpec)

/-- ITS FALSE NEIGHBOUR: 'it returns false'. Refute it at one input. -/
def matMulsWrong : ChangeSpec := { name := "matMuls", fn := fun _ => fun
  | [d1, d2] => { results := [.lit (.bool false)], args := [d1, d2] }
  | _ => none }
def MatMulsWrongFalsely : Prop := matMulsRow.holds Try.pinned (OpenSpec.ofChange matMulsWrong)

/-- 'quicksetlaw.MatApplies': WHATEVER THE INPUT: true; the input reads as it did. -/
def matAppliesSpec : ChangeSpec := { name := "matApplies", fn := fun _ => fun
  | [d1, d2] => { results := [.lit (.bool true)], args := [d1, d2] }
  | _ => none }
def matAppliesRow : OpenClaim := { program := "ytfnocamooapajaa", sum := "6f62ff0a86f3d39e9a6292b7c149cea443c552c31eae8c5f1c37acad1faf8269", func := "quickset/quicksetlaw.MatApplies", spec := "matApplies", unfollowed := true, recurses := true, apart := false }
def MatAppliesSaid : Prop := matAppliesRow.holds Try.pinned (OpenSpec.ofChange matAppliesSpec)

/-- ITS FALSE NEIGHBOUR: 'it returns false'. Refute it at one input. -/
def matAppliesWrong : ChangeSpec := { name := "matApplies", fn := fun _ => fun
  | [d1, d2] => { results := [.lit (.bool false)], args := [d1, d2] }
  | _ => none }
def MatAppliesWrongFalsely : Prop := matAppliesRow.holds Try.pinned (OpenSpec.ofChange matAppliesWrong)

/-- 'quicksetlaw.MatRanks': WHATEVER THE INPUT: true; the input reads as it did. -/
def matRanksSpec : ChangeSpec := { name := "matRanks", fn := fun _ => fun
  | [d] => { results := [.lit (.bool true)], args := [d] }
  | _ => none }
def matRanksRow : OpenClaim := { program := "ytfnocamooapajaa", sum := "6f62ff0a86f3d39e9a6292b7c149cea443c552c31eae8c5f1c37acad1faf8269", func := "quickset/quicksetlaw.MatRanks", spec := "matRanks", unfollowed := true, recurses := true, apart := false }
def MatRanksSaid : Prop := matRanksRow.holds Try.pinned (OpenSpec.ofChange matRanksSpec)

/-- ITS FALSE NEIGHBOUR: 'it returns false'. Refute it at one input. -/
def matRanksWrong : ChangeSpec := { name := "matRanks", fn := fun _ => fun
  | [d] => { results := [.lit (.bool false)], args := [d] }
  | _ => none }
def MatRanksWrongFalsely : Prop := matRanksRow.holds Try.pinned (OpenSpec.ofChange matRanksWrong)

/-- 'quicksetlaw.MatInverts': WHATEVER THE INPUT: true; the input reads as it did. -/
def matInvertsSpec : ChangeSpec := { name := "matInverts", fn := fun _ => fun
  | [d] => { results := [.lit (.bool true)], args := [d] }
  | _ => none }
def matInvertsRow : OpenClaim := { program := "ytfnocamooapajaa", sum := "6f62ff0a86f3d39e9a6292b7c149cea443c552c31eae8c5f1c37acad1faf8269", func := "quickset/quicksetlaw.MatInverts", spec := "matInverts", unfollowed := true, recurses := true, apart := false }
def MatInvertsSaid : Prop := matInvertsRow.holds Try.pinned (OpenSpec.ofChange matInvertsSpec)

/-- ITS FALSE NEIGHBOUR: 'it returns false'. Refute it at one input. -/
def matInvertsWrong : ChangeSpec := { name := "matInverts", fn := fun _ => fun
  | [d] => { results := [.lit (.bool false)], args := [d] }
  | _ => none }
def MatInvertsWrongFalsely : Prop := matInvertsRow.holds Try.pinned (OpenSpec.ofChange matInvertsWrong)

/-- 'quicksetkeep.MatTogether': WHATEVER THE INPUT: true; the input reads as it did. -/
def matTogetherSpec : ChangeSpec := { name := "matTogether", fn := fun _ => fun
  | [d1, d2, d3, d4, d5, d6, d7] => { results := [.lit (.bool true)], args := [d1, d2, d3, d4, d5, d6, d7] }
  | _ => none }
def matTogetherRow : OpenClaim := { program := "ytfnocamooapajaa", sum := "6f62ff0a86f3d39e9a6292b7c149cea443c552c31eae8c5f1c37acad1faf8269", func := "quickset/quicksetkeep.MatTogether", spec := "matTogether", unfollowed := true, recurses := true, apart := false }
def MatTogetherSaid : Prop := matTogetherRow.holds Try.pinned (OpenSpec.ofChange matTogetherSpec)

/-- ITS FALSE NEIGHBOUR: 'it returns false'. Refute it at one input. -/
def matTogetherWrong : ChangeSpec := { name := "matTogether", fn := fun _ => fun
  | [d1, d2, d3, d4, d5, d6, d7] => { results := [.lit (.bool false)], args := [d1, d2, d3, d4, d5, d6, d7] }
  | _ => none }
def MatTogetherWrongFalsely : Prop := matTogetherRow.holds Try.pinned (OpenSpec.ofChange matTogetherWrong)

/- THE SECOND FORM. 'bulk': how many values and letters a reading holds, each counted each time it is reached (what is shared counts as often as it is met; a slice's spare places count too). A statement '..UptoSaid' is the law's where the arguments, and the package variables that the reading takes, are together of bulk at most 1048576: NARROWER than '..Said'. Prove '..Said' where nothing that the law and all that it calls make is longer than what came in: it says more and counts as full. Else prove '..UptoSaid'. A law counts once. -/
mutual
def uptoBulk {H : Type} : DataW H → Nat
  | .lit (.string bytes) => bytes.length + 1
  | .lit _ => 1
  | .nil => 1
  | .ptr d => uptoBulk d + 1
  | .slice elems spare => uptoBulkAll elems + uptoBulkAll spare + 1
  | .agg parts => uptoBulkAll parts + 1
  | .iface _ d => uptoBulk d + 1
  | .map entries => uptoBulkEntries entries + 1
  | .held _ => 1
def uptoBulkAll {H : Type} : List (DataW H) → Nat
  | [] => 0
  | d :: r => uptoBulk d + uptoBulkAll r
def uptoBulkEntries {H : Type} : List (Lit × DataW H) → Nat
  | [] => 0
  | x :: r => uptoBulkEntry x + uptoBulkEntries r
def uptoBulkEntry {H : Type} : Lit × DataW H → Nat
  | (.string bytes, d) => bytes.length + uptoBulk d + 1
  | (_, d) => uptoBulk d + 1
 end
def uptoSmall : (H : Type) → List (DataW H) → Bool := fun _ ds => decide (uptoBulkAll ds ≤ 1048576)
def OpenSpec.upto (s : _root_.Go.ChangeSpec) : _root_.Go.OpenSpec := { _root_.Go.OpenSpec.ofChange s with cond := some uptoSmall }

/-- 'quicksetlaw.MatMays', WHERE WHAT IT READS IS OF BULK AT MOST 1048576: true; the input reads as it did. -/
def matMaysUptoRow : OpenClaim := { program := "ytfnocamooapajaa", sum := "6f62ff0a86f3d39e9a6292b7c149cea443c552c31eae8c5f1c37acad1faf8269", func := "quickset/quicksetlaw.MatMays", spec := "matMays", unfollowed := true, recurses := true, apart := false, narrowed := true }
def MatMaysUptoSaid : Prop := matMaysUptoRow.holds Try.pinned (OpenSpec.upto matMaysSpec)

/-- 'quicksetlaw.MatMuls', WHERE WHAT IT READS IS OF BULK AT MOST 1048576: true; the input reads as it did. -/
def matMulsUptoRow : OpenClaim := { program := "ytfnocamooapajaa", sum := "6f62ff0a86f3d39e9a6292b7c149cea443c552c31eae8c5f1c37acad1faf8269", func := "quickset/quicksetlaw.MatMuls", spec := "matMuls", unfollowed := true, recurses := true, apart := false, narrowed := true }
def MatMulsUptoSaid : Prop := matMulsUptoRow.holds Try.pinned (OpenSpec.upto matMulsSpec)

/-- 'quicksetlaw.MatApplies', WHERE WHAT IT READS IS OF BULK AT MOST 1048576: true; the input reads as it did. -/
def matAppliesUptoRow : OpenClaim := { program := "ytfnocamooapajaa", sum := "6f62ff0a86f3d39e9a6292b7c149cea443c552c31eae8c5f1c37acad1faf8269", func := "quickset/quicksetlaw.MatApplies", spec := "matApplies", unfollowed := true, recurses := true, apart := false, narrowed := true }
def MatAppliesUptoSaid : Prop := matAppliesUptoRow.holds Try.pinned (OpenSpec.upto matAppliesSpec)

/-- 'quicksetlaw.MatRanks', WHERE WHAT IT READS IS OF BULK AT MOST 1048576: true; the input reads as it did. -/
def matRanksUptoRow : OpenClaim := { program := "ytfnocamooapajaa", sum := "6f62ff0a86f3d39e9a6292b7c149cea443c552c31eae8c5f1c37acad1faf8269", func := "quickset/quicksetlaw.MatRanks", spec := "matRanks", unfollowed := true, recurses := true, apart := false, narrowed := true }
def MatRanksUptoSaid : Prop := matRanksUptoRow.holds Try.pinned (OpenSpec.upto matRanksSpec)

/-- 'quicksetlaw.MatInverts', WHERE WHAT IT READS IS OF BULK AT MOST 1048576: true; the input reads as it did. -/
def matInvertsUptoRow : OpenClaim := { program := "ytfnocamooapajaa", sum := "6f62ff0a86f3d39e9a6292b7c149cea443c552c31eae8c5f1c37acad1faf8269", func := "quickset/quicksetlaw.MatInverts", spec := "matInverts", unfollowed := true, recurses := true, apart := false, narrowed := true }
def MatInvertsUptoSaid : Prop := matInvertsUptoRow.holds Try.pinned (OpenSpec.upto matInvertsSpec)

/-- 'quicksetkeep.MatTogether', WHERE WHAT IT READS IS OF BULK AT MOST 1048576: true; the input reads as it did. -/
def matTogetherUptoRow : OpenClaim := { program := "ytfnocamooapajaa", sum := "6f62ff0a86f3d39e9a6292b7c149cea443c552c31eae8c5f1c37acad1faf8269", func := "quickset/quicksetkeep.MatTogether", spec := "matTogether", unfollowed := true, recurses := true, apart := false, narrowed := true }
def MatTogetherUptoSaid : Prop := matTogetherUptoRow.holds Try.pinned (OpenSpec.upto matTogetherSpec)

end Rows
end Go.Proofs.Ytfnocamooapajaa
