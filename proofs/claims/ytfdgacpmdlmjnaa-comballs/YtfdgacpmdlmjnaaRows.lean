/-
  No cell of these rows narrows 'for every input' (looked for: loops, veiled, ifaces, maps, wideKeys, modest, calm, conditions, laid).
  DERIVED. THE GIVEN ROWS OF THIS SEAT. 6 by the template 'for every input the law returns true; each argument reads behind the call as it read before'; 0 by the template 'total and deterministic' (their statements: YtfdgacpmdlmjnaaTotals.lean).
  GIVEN WITH THE SEED: the statements are not yours to turn. If you find one false, say at which input.
  Laid BY PROGRAM, IN A SANDBOX (cutbox-rows.mjs): the forced cells as the released guide's own fill.sh prints them over the translation 90568a37deca354d… (all of the seat's roots in one cut). By AI agents, Wed Nov 11 2026. No macro, syntax, notation, axiom, sorry.
-/
import Derived.Test.YtfdgacpmdlmjnaaChecked
import GoSem.Claim
import GoSem.ClaimJoined
import GoSem.ClaimMapViews
import Derived.JoinedTies
import Derived.KernelRfl
namespace Go.Proofs.Ytfdgacpmdlmjnaa
/- THE CELL 'sum', in the pinned program and in every row, IS THE sha256 OF THE DUMP (.gsa) THAT YtfdgacpmdlmjnaaProg.lean LOADS. Nothing in Lean hashes anything: it is a label: what it is worth is what the hold of that sum in a sandbox is worth. -/
noncomputable def Try.pinned : Pinned := { name := "ytfdgacpmdlmjnaa", sum := "90568a37deca354d81b3e60aa637ae171ee71bdaa5ce9361ec74df3949195c88", checked := Try.checked }
namespace Rows
def none {H : Type} : Left H := { results := [], args := [] }

/-- 'quicksetlaw.ParRebuilds': WHATEVER THE INPUT: true; the input reads as it did. -/
def parRebuildsSpec : ChangeSpec := { name := "parRebuilds", fn := fun _ => fun
  | [d1, d2, d3] => { results := [.lit (.bool true)], args := [d1, d2, d3] }
  | _ => none }
def parRebuildsRow : OpenClaim := { program := "ytfdgacpmdlmjnaa", sum := "90568a37deca354d81b3e60aa637ae171ee71bdaa5ce9361ec74df3949195c88", func := "quickset/quicksetlaw.ParRebuilds", spec := "parRebuilds", unfollowed := true, recurses := true, apart := false }
def ParRebuildsSaid : Prop := parRebuildsRow.holds Try.pinned (OpenSpec.ofChange parRebuildsSpec)

/-- ITS FALSE NEIGHBOUR: 'it returns false'. Refute it at one input. -/
def parRebuildsWrong : ChangeSpec := { name := "parRebuilds", fn := fun _ => fun
  | [d1, d2, d3] => { results := [.lit (.bool false)], args := [d1, d2, d3] }
  | _ => none }
def ParRebuildsWrongFalsely : Prop := parRebuildsRow.holds Try.pinned (OpenSpec.ofChange parRebuildsWrong)

/-- 'quicksetlaw.CombCounts': WHATEVER THE INPUT: true; the input reads as it did. -/
def combCountsSpec : ChangeSpec := { name := "combCounts", fn := fun _ => fun
  | [d1, d2] => { results := [.lit (.bool true)], args := [d1, d2] }
  | _ => none }
def combCountsRow : OpenClaim := { program := "ytfdgacpmdlmjnaa", sum := "90568a37deca354d81b3e60aa637ae171ee71bdaa5ce9361ec74df3949195c88", func := "quickset/quicksetlaw.CombCounts", spec := "combCounts", apart := false }
def CombCountsSaid : Prop := combCountsRow.holds Try.pinned (OpenSpec.ofChange combCountsSpec)

/-- ITS FALSE NEIGHBOUR: 'it returns false'. Refute it at one input. -/
def combCountsWrong : ChangeSpec := { name := "combCounts", fn := fun _ => fun
  | [d1, d2] => { results := [.lit (.bool false)], args := [d1, d2] }
  | _ => none }
def CombCountsWrongFalsely : Prop := combCountsRow.holds Try.pinned (OpenSpec.ofChange combCountsWrong)

/-- 'quicksetlaw.CombAlls': WHATEVER THE INPUT: true; the input reads as it did. -/
def combAllsSpec : ChangeSpec := { name := "combAlls", fn := fun _ => fun
  | [d1, d2] => { results := [.lit (.bool true)], args := [d1, d2] }
  | _ => none }
def combAllsRow : OpenClaim := { program := "ytfdgacpmdlmjnaa", sum := "90568a37deca354d81b3e60aa637ae171ee71bdaa5ce9361ec74df3949195c88", func := "quickset/quicksetlaw.CombAlls", spec := "combAlls", unfollowed := true, recurses := true, apart := false }
def CombAllsSaid : Prop := combAllsRow.holds Try.pinned (OpenSpec.ofChange combAllsSpec)

/-- ITS FALSE NEIGHBOUR: 'it returns false'. Refute it at one input. -/
def combAllsWrong : ChangeSpec := { name := "combAlls", fn := fun _ => fun
  | [d1, d2] => { results := [.lit (.bool false)], args := [d1, d2] }
  | _ => none }
def CombAllsWrongFalsely : Prop := combAllsRow.holds Try.pinned (OpenSpec.ofChange combAllsWrong)

/-- 'quicksetlaw.CombNumbers': WHATEVER THE INPUT: true; the input reads as it did. -/
def combNumbersSpec : ChangeSpec := { name := "combNumbers", fn := fun _ => fun
  | [d1, d2] => { results := [.lit (.bool true)], args := [d1, d2] }
  | _ => none }
def combNumbersRow : OpenClaim := { program := "ytfdgacpmdlmjnaa", sum := "90568a37deca354d81b3e60aa637ae171ee71bdaa5ce9361ec74df3949195c88", func := "quickset/quicksetlaw.CombNumbers", spec := "combNumbers", recurses := true, apart := false }
def CombNumbersSaid : Prop := combNumbersRow.holds Try.pinned (OpenSpec.ofChange combNumbersSpec)

/-- ITS FALSE NEIGHBOUR: 'it returns false'. Refute it at one input. -/
def combNumbersWrong : ChangeSpec := { name := "combNumbers", fn := fun _ => fun
  | [d1, d2] => { results := [.lit (.bool false)], args := [d1, d2] }
  | _ => none }
def CombNumbersWrongFalsely : Prop := combNumbersRow.holds Try.pinned (OpenSpec.ofChange combNumbersWrong)

/-- 'quicksetlaw.CombAts': WHATEVER THE INPUT: true; the input reads as it did. -/
def combAtsSpec : ChangeSpec := { name := "combAts", fn := fun _ => fun
  | [d1, d2, d3] => { results := [.lit (.bool true)], args := [d1, d2, d3] }
  | _ => none }
def combAtsRow : OpenClaim := { program := "ytfdgacpmdlmjnaa", sum := "90568a37deca354d81b3e60aa637ae171ee71bdaa5ce9361ec74df3949195c88", func := "quickset/quicksetlaw.CombAts", spec := "combAts", recurses := true, apart := false }
def CombAtsSaid : Prop := combAtsRow.holds Try.pinned (OpenSpec.ofChange combAtsSpec)

/-- ITS FALSE NEIGHBOUR: 'it returns false'. Refute it at one input. -/
def combAtsWrong : ChangeSpec := { name := "combAts", fn := fun _ => fun
  | [d1, d2, d3] => { results := [.lit (.bool false)], args := [d1, d2, d3] }
  | _ => none }
def CombAtsWrongFalsely : Prop := combAtsRow.holds Try.pinned (OpenSpec.ofChange combAtsWrong)

/-- 'quicksetkeep.CombPascal': WHATEVER THE INPUT: true; the input reads as it did. -/
def combPascalSpec : ChangeSpec := { name := "combPascal", fn := fun _ => fun
  | [d1, d2] => { results := [.lit (.bool true)], args := [d1, d2] }
  | _ => none }
def combPascalRow : OpenClaim := { program := "ytfdgacpmdlmjnaa", sum := "90568a37deca354d81b3e60aa637ae171ee71bdaa5ce9361ec74df3949195c88", func := "quickset/quicksetkeep.CombPascal", spec := "combPascal", apart := false }
def CombPascalSaid : Prop := combPascalRow.holds Try.pinned (OpenSpec.ofChange combPascalSpec)

/-- ITS FALSE NEIGHBOUR: 'it returns false'. Refute it at one input. -/
def combPascalWrong : ChangeSpec := { name := "combPascal", fn := fun _ => fun
  | [d1, d2] => { results := [.lit (.bool false)], args := [d1, d2] }
  | _ => none }
def CombPascalWrongFalsely : Prop := combPascalRow.holds Try.pinned (OpenSpec.ofChange combPascalWrong)

/- THE SECOND FORM. 'bulk': how many values and letters a reading holds, each counted each time it is reached (what is shared counts as often as it is met; a slice's spare places count too). A statement '..UptoSaid' is the law's where the arguments, and the package variables that the reading takes, are together of bulk at most 1048576: NARROWER than '..Said'. Prove '..Said' where nothing that the law and all that it calls make is longer than what came in: it says more and counts as full. Else prove '..UptoSaid'. A law counts once. -/
mutual
def uptoBulk {H : Type} : DataW H → Nat
  | .lit (.string bytes) => bytes.length + 1
  | .lit _ => 1
  | .nil => 1
  | .ptr d => uptoBulk d + 1
  | .slice elems spare => uptoBulkAll elems + uptoBulkAll spare + 1
  | .agg parts => uptoBulkAll parts + 1
  | .iface _ d => uptoBulk d + 1
  | .map entries => uptoBulkEntries entries + 1
  | .held _ => 1
def uptoBulkAll {H : Type} : List (DataW H) → Nat
  | [] => 0
  | d :: r => uptoBulk d + uptoBulkAll r
def uptoBulkEntries {H : Type} : List (Lit × DataW H) → Nat
  | [] => 0
  | x :: r => uptoBulkEntry x + uptoBulkEntries r
def uptoBulkEntry {H : Type} : Lit × DataW H → Nat
  | (.string bytes, d) => bytes.length + uptoBulk d + 1
  | (_, d) => uptoBulk d + 1
 end
def uptoSmall : (H : Type) → List (DataW H) → Bool := fun _ ds => decide (uptoBulkAll ds ≤ 1048576)
def OpenSpec.upto (s : _root_.Go.ChangeSpec) : _root_.Go.OpenSpec := { _root_.Go.OpenSpec.ofChange s with cond := some uptoSmall }

/-- 'quicksetlaw.ParRebuilds', WHERE WHAT IT READS IS OF BULK AT MOST 1048576: true; the input reads as it did. -/
def parRebuildsUptoRow : OpenClaim := { program := "ytfdgacpmdlmjnaa", sum := "90568a37deca354d81b3e60aa637ae171ee71bdaa5ce9361ec74df3949195c88", func := "quickset/quicksetlaw.ParRebuilds", spec := "parRebuilds", unfollowed := true, recurses := true, apart := false, narrowed := true }
def ParRebuildsUptoSaid : Prop := parRebuildsUptoRow.holds Try.pinned (OpenSpec.upto parRebuildsSpec)

/-- 'quicksetlaw.CombCounts', WHERE WHAT IT READS IS OF BULK AT MOST 1048576: true; the input reads as it did. -/
def combCountsUptoRow : OpenClaim := { program := "ytfdgacpmdlmjnaa", sum := "90568a37deca354d81b3e60aa637ae171ee71bdaa5ce9361ec74df3949195c88", func := "quickset/quicksetlaw.CombCounts", spec := "combCounts", apart := false, narrowed := true }
def CombCountsUptoSaid : Prop := combCountsUptoRow.holds Try.pinned (OpenSpec.upto combCountsSpec)

/-- 'quicksetlaw.CombAlls', WHERE WHAT IT READS IS OF BULK AT MOST 1048576: true; the input reads as it did. -/
def combAllsUptoRow : OpenClaim := { program := "ytfdgacpmdlmjnaa", sum := "90568a37deca354d81b3e60aa637ae171ee71bdaa5ce9361ec74df3949195c88", func := "quickset/quicksetlaw.CombAlls", spec := "combAlls", unfollowed := true, recurses := true, apart := false, narrowed := true }
def CombAllsUptoSaid : Prop := combAllsUptoRow.holds Try.pinned (OpenSpec.upto combAllsSpec)

/-- 'quicksetlaw.CombNumbers', WHERE WHAT IT READS IS OF BULK AT MOST 1048576: true; the input reads as it did. -/
def combNumbersUptoRow : OpenClaim := { program := "ytfdgacpmdlmjnaa", sum := "90568a37deca354d81b3e60aa637ae171ee71bdaa5ce9361ec74df3949195c88", func := "quickset/quicksetlaw.CombNumbers", spec := "combNumbers", recurses := true, apart := false, narrowed := true }
def CombNumbersUptoSaid : Prop := combNumbersUptoRow.holds Try.pinned (OpenSpec.upto combNumbersSpec)

/-- 'quicksetlaw.CombAts', WHERE WHAT IT READS IS OF BULK AT MOST 1048576: true; the input reads as it did. -/
def combAtsUptoRow : OpenClaim := { program := "ytfdgacpmdlmjnaa", sum := "90568a37deca354d81b3e60aa637ae171ee71bdaa5ce9361ec74df3949195c88", func := "quickset/quicksetlaw.CombAts", spec := "combAts", recurses := true, apart := false, narrowed := true }
def CombAtsUptoSaid : Prop := combAtsUptoRow.holds Try.pinned (OpenSpec.upto combAtsSpec)

/-- 'quicksetkeep.CombPascal', WHERE WHAT IT READS IS OF BULK AT MOST 1048576: true; the input reads as it did. -/
def combPascalUptoRow : OpenClaim := { program := "ytfdgacpmdlmjnaa", sum := "90568a37deca354d81b3e60aa637ae171ee71bdaa5ce9361ec74df3949195c88", func := "quickset/quicksetkeep.CombPascal", spec := "combPascal", apart := false, narrowed := true }
def CombPascalUptoSaid : Prop := combPascalUptoRow.holds Try.pinned (OpenSpec.upto combPascalSpec)

end Rows
end Go.Proofs.Ytfdgacpmdlmjnaa
