/-
  No cell of these rows narrows 'for every input' (looked for: loops, veiled, ifaces, maps, wideKeys, modest, calm, conditions, laid).
  DERIVED. THE GIVEN ROWS OF THIS SEAT. 6 by the template 'for every input the law returns true; each argument reads behind the call as it read before'; 0 by the template 'total and deterministic' (their statements: YtbjbalflicadjaaTotals.lean).
  GIVEN WITH THE SEED: the statements are not yours to turn. If you find one false, say at which input.
  Laid BY PROGRAM, IN A SANDBOX (cutbox-rows.mjs): the forced cells as the released guide's own fill.sh prints them over the translation 64fa067835e44905… (all of the seat's roots in one cut). By AI agents, Wed Nov 11 2026. No macro, syntax, notation, axiom, sorry.
-/
import Derived.Test.YtbjbalflicadjaaChecked
import GoSem.Claim
import GoSem.ClaimJoined
import GoSem.ClaimMapViews
import Derived.JoinedTies
import Derived.KernelRfl
namespace Go.Proofs.Ytbjbalflicadjaa
/- THE CELL 'sum', in the pinned program and in every row, IS THE sha256 OF THE DUMP (.gsa) THAT YtbjbalflicadjaaProg.lean LOADS. Nothing in Lean hashes anything: it is a label: what it is worth is what the hold of that sum in a sandbox is worth. -/
noncomputable def Try.pinned : Pinned := { name := "ytbjbalflicadjaa", sum := "64fa067835e44905b1810cb712a252131aea5e4b6abb3efadf86bb7a8c7b27d6", checked := Try.checked }
namespace Rows
def none {H : Type} : Left H := { results := [], args := [] }

/-- 'quicksetlaw.GeomCosts': WHATEVER THE INPUT: true; the input reads as it did. -/
def geomCostsSpec : ChangeSpec := { name := "geomCosts", fn := fun _ => fun
  | [d1, d2, d3] => { results := [.lit (.bool true)], args := [d1, d2, d3] }
  | _ => none }
def geomCostsRow : OpenClaim := { program := "ytbjbalflicadjaa", sum := "64fa067835e44905b1810cb712a252131aea5e4b6abb3efadf86bb7a8c7b27d6", func := "quickset/quicksetlaw.GeomCosts", spec := "geomCosts", apart := false }
def GeomCostsSaid : Prop := geomCostsRow.holds Try.pinned (OpenSpec.ofChange geomCostsSpec)

/-- ITS FALSE NEIGHBOUR: 'it returns false'. Refute it at one input. -/
def geomCostsWrong : ChangeSpec := { name := "geomCosts", fn := fun _ => fun
  | [d1, d2, d3] => { results := [.lit (.bool false)], args := [d1, d2, d3] }
  | _ => none }
def GeomCostsWrongFalsely : Prop := geomCostsRow.holds Try.pinned (OpenSpec.ofChange geomCostsWrong)

/-- 'quicksetlaw.GeomSpots': WHATEVER THE INPUT: true; the input reads as it did. -/
def geomSpotsSpec : ChangeSpec := { name := "geomSpots", fn := fun _ => fun
  | [d1, d2] => { results := [.lit (.bool true)], args := [d1, d2] }
  | _ => none }
def geomSpotsRow : OpenClaim := { program := "ytbjbalflicadjaa", sum := "64fa067835e44905b1810cb712a252131aea5e4b6abb3efadf86bb7a8c7b27d6", func := "quickset/quicksetlaw.GeomSpots", spec := "geomSpots", apart := false }
def GeomSpotsSaid : Prop := geomSpotsRow.holds Try.pinned (OpenSpec.ofChange geomSpotsSpec)

/-- ITS FALSE NEIGHBOUR: 'it returns false'. Refute it at one input. -/
def geomSpotsWrong : ChangeSpec := { name := "geomSpots", fn := fun _ => fun
  | [d1, d2] => { results := [.lit (.bool false)], args := [d1, d2] }
  | _ => none }
def GeomSpotsWrongFalsely : Prop := geomSpotsRow.holds Try.pinned (OpenSpec.ofChange geomSpotsWrong)

/-- 'quicksetlaw.GeomColumns': WHATEVER THE INPUT: true; the input reads as it did. -/
def geomColumnsSpec : ChangeSpec := { name := "geomColumns", fn := fun _ => fun
  | [d1, d2, d3, d4] => { results := [.lit (.bool true)], args := [d1, d2, d3, d4] }
  | _ => none }
def geomColumnsRow : OpenClaim := { program := "ytbjbalflicadjaa", sum := "64fa067835e44905b1810cb712a252131aea5e4b6abb3efadf86bb7a8c7b27d6", func := "quickset/quicksetlaw.GeomColumns", spec := "geomColumns", apart := false }
def GeomColumnsSaid : Prop := geomColumnsRow.holds Try.pinned (OpenSpec.ofChange geomColumnsSpec)

/-- ITS FALSE NEIGHBOUR: 'it returns false'. Refute it at one input. -/
def geomColumnsWrong : ChangeSpec := { name := "geomColumns", fn := fun _ => fun
  | [d1, d2, d3, d4] => { results := [.lit (.bool false)], args := [d1, d2, d3, d4] }
  | _ => none }
def GeomColumnsWrongFalsely : Prop := geomColumnsRow.holds Try.pinned (OpenSpec.ofChange geomColumnsWrong)

/-- 'quicksetkeep.ColumnsApart': WHATEVER THE INPUT: true; the input reads as it did. -/
def columnsApartSpec : ChangeSpec := { name := "columnsApart", fn := fun _ => fun
  | [d1, d2, d3, d4] => { results := [.lit (.bool true)], args := [d1, d2, d3, d4] }
  | _ => none }
def columnsApartRow : OpenClaim := { program := "ytbjbalflicadjaa", sum := "64fa067835e44905b1810cb712a252131aea5e4b6abb3efadf86bb7a8c7b27d6", func := "quickset/quicksetkeep.ColumnsApart", spec := "columnsApart", apart := false }
def ColumnsApartSaid : Prop := columnsApartRow.holds Try.pinned (OpenSpec.ofChange columnsApartSpec)

/-- ITS FALSE NEIGHBOUR: 'it returns false'. Refute it at one input. -/
def columnsApartWrong : ChangeSpec := { name := "columnsApart", fn := fun _ => fun
  | [d1, d2, d3, d4] => { results := [.lit (.bool false)], args := [d1, d2, d3, d4] }
  | _ => none }
def ColumnsApartWrongFalsely : Prop := columnsApartRow.holds Try.pinned (OpenSpec.ofChange columnsApartWrong)

/-- 'quicksetkeep.ColumnsFill': WHATEVER THE INPUT: true; the input reads as it did. -/
def columnsFillSpec : ChangeSpec := { name := "columnsFill", fn := fun _ => fun
  | [d1, d2, d3, d4] => { results := [.lit (.bool true)], args := [d1, d2, d3, d4] }
  | _ => none }
def columnsFillRow : OpenClaim := { program := "ytbjbalflicadjaa", sum := "64fa067835e44905b1810cb712a252131aea5e4b6abb3efadf86bb7a8c7b27d6", func := "quickset/quicksetkeep.ColumnsFill", spec := "columnsFill", apart := false }
def ColumnsFillSaid : Prop := columnsFillRow.holds Try.pinned (OpenSpec.ofChange columnsFillSpec)

/-- ITS FALSE NEIGHBOUR: 'it returns false'. Refute it at one input. -/
def columnsFillWrong : ChangeSpec := { name := "columnsFill", fn := fun _ => fun
  | [d1, d2, d3, d4] => { results := [.lit (.bool false)], args := [d1, d2, d3, d4] }
  | _ => none }
def ColumnsFillWrongFalsely : Prop := columnsFillRow.holds Try.pinned (OpenSpec.ofChange columnsFillWrong)

/-- 'quicksetkeep.SpotApart': WHATEVER THE INPUT: true; the input reads as it did. -/
def spotApartSpec : ChangeSpec := { name := "spotApart", fn := fun _ => fun
  | [d1, d2, d3, d4] => { results := [.lit (.bool true)], args := [d1, d2, d3, d4] }
  | _ => none }
def spotApartRow : OpenClaim := { program := "ytbjbalflicadjaa", sum := "64fa067835e44905b1810cb712a252131aea5e4b6abb3efadf86bb7a8c7b27d6", func := "quickset/quicksetkeep.SpotApart", spec := "spotApart", apart := false }
def SpotApartSaid : Prop := spotApartRow.holds Try.pinned (OpenSpec.ofChange spotApartSpec)

/-- ITS FALSE NEIGHBOUR: 'it returns false'. Refute it at one input. -/
def spotApartWrong : ChangeSpec := { name := "spotApart", fn := fun _ => fun
  | [d1, d2, d3, d4] => { results := [.lit (.bool false)], args := [d1, d2, d3, d4] }
  | _ => none }
def SpotApartWrongFalsely : Prop := spotApartRow.holds Try.pinned (OpenSpec.ofChange spotApartWrong)

/- THE SECOND FORM. 'bulk': how many values and letters a reading holds, each counted each time it is reached (what is shared counts as often as it is met; a slice's spare places count too). A statement '..UptoSaid' is the law's where the arguments, and the package variables that the reading takes, are together of bulk at most 1048576: NARROWER than '..Said'. Prove '..Said' where nothing that the law and all that it calls make is longer than what came in: it says more and counts as full. Else prove '..UptoSaid'. A law counts once. -/
mutual
def uptoBulk {H : Type} : DataW H → Nat
  | .lit (.string bytes) => bytes.length + 1
  | .lit _ => 1
  | .nil => 1
  | .ptr d => uptoBulk d + 1
  | .slice elems spare => uptoBulkAll elems + uptoBulkAll spare + 1
  | .agg parts => uptoBulkAll parts + 1
  | .iface _ d => uptoBulk d + 1
  | .map entries => uptoBulkEntries entries + 1
  | .held _ => 1
def uptoBulkAll {H : Type} : List (DataW H) → Nat
  | [] => 0
  | d :: r => uptoBulk d + uptoBulkAll r
def uptoBulkEntries {H : Type} : List (Lit × DataW H) → Nat
  | [] => 0
  | x :: r => uptoBulkEntry x + uptoBulkEntries r
def uptoBulkEntry {H : Type} : Lit × DataW H → Nat
  | (.string bytes, d) => bytes.length + uptoBulk d + 1
  | (_, d) => uptoBulk d + 1
 end
def uptoSmall : (H : Type) → List (DataW H) → Bool := fun _ ds => decide (uptoBulkAll ds ≤ 1048576)
def OpenSpec.upto (s : _root_.Go.ChangeSpec) : _root_.Go.OpenSpec := { _root_.Go.OpenSpec.ofChange s with cond := some uptoSmall }

/-- 'quicksetlaw.GeomCosts', WHERE WHAT IT READS IS OF BULK AT MOST 1048576: true; the input reads as it did. -/
def geomCostsUptoRow : OpenClaim := { program := "ytbjbalflicadjaa", sum := "64fa067835e44905b1810cb712a252131aea5e4b6abb3efadf86bb7a8c7b27d6", func := "quickset/quicksetlaw.GeomCosts", spec := "geomCosts", apart := false, narrowed := true }
def GeomCostsUptoSaid : Prop := geomCostsUptoRow.holds Try.pinned (OpenSpec.upto geomCostsSpec)

/-- 'quicksetlaw.GeomSpots', WHERE WHAT IT READS IS OF BULK AT MOST 1048576: true; the input reads as it did. -/
def geomSpotsUptoRow : OpenClaim := { program := "ytbjbalflicadjaa", sum := "64fa067835e44905b1810cb712a252131aea5e4b6abb3efadf86bb7a8c7b27d6", func := "quickset/quicksetlaw.GeomSpots", spec := "geomSpots", apart := false, narrowed := true }
def GeomSpotsUptoSaid : Prop := geomSpotsUptoRow.holds Try.pinned (OpenSpec.upto geomSpotsSpec)

/-- 'quicksetlaw.GeomColumns', WHERE WHAT IT READS IS OF BULK AT MOST 1048576: true; the input reads as it did. -/
def geomColumnsUptoRow : OpenClaim := { program := "ytbjbalflicadjaa", sum := "64fa067835e44905b1810cb712a252131aea5e4b6abb3efadf86bb7a8c7b27d6", func := "quickset/quicksetlaw.GeomColumns", spec := "geomColumns", apart := false, narrowed := true }
def GeomColumnsUptoSaid : Prop := geomColumnsUptoRow.holds Try.pinned (OpenSpec.upto geomColumnsSpec)

/-- 'quicksetkeep.ColumnsApart', WHERE WHAT IT READS IS OF BULK AT MOST 1048576: true; the input reads as it did. -/
def columnsApartUptoRow : OpenClaim := { program := "ytbjbalflicadjaa", sum := "64fa067835e44905b1810cb712a252131aea5e4b6abb3efadf86bb7a8c7b27d6", func := "quickset/quicksetkeep.ColumnsApart", spec := "columnsApart", apart := false, narrowed := true }
def ColumnsApartUptoSaid : Prop := columnsApartUptoRow.holds Try.pinned (OpenSpec.upto columnsApartSpec)

/-- 'quicksetkeep.ColumnsFill', WHERE WHAT IT READS IS OF BULK AT MOST 1048576: true; the input reads as it did. -/
def columnsFillUptoRow : OpenClaim := { program := "ytbjbalflicadjaa", sum := "64fa067835e44905b1810cb712a252131aea5e4b6abb3efadf86bb7a8c7b27d6", func := "quickset/quicksetkeep.ColumnsFill", spec := "columnsFill", apart := false, narrowed := true }
def ColumnsFillUptoSaid : Prop := columnsFillUptoRow.holds Try.pinned (OpenSpec.upto columnsFillSpec)

/-- 'quicksetkeep.SpotApart', WHERE WHAT IT READS IS OF BULK AT MOST 1048576: true; the input reads as it did. -/
def spotApartUptoRow : OpenClaim := { program := "ytbjbalflicadjaa", sum := "64fa067835e44905b1810cb712a252131aea5e4b6abb3efadf86bb7a8c7b27d6", func := "quickset/quicksetkeep.SpotApart", spec := "spotApart", apart := false, narrowed := true }
def SpotApartUptoSaid : Prop := spotApartUptoRow.holds Try.pinned (OpenSpec.upto spotApartSpec)

end Rows
end Go.Proofs.Ytbjbalflicadjaa
