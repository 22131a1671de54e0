/-
  No cell of these rows narrows 'for every input' (looked for: loops, veiled, ifaces, maps, wideKeys, modest, calm, conditions, laid).
  DERIVED. THE GIVEN ROWS OF THIS SEAT. 6 by the template 'for every input the law returns true; each argument reads behind the call as it read before'; 0 by the template 'total and deterministic' (their statements: YtlmnkakjmhgiaaaTotals.lean).
  GIVEN WITH THE SEED: the statements are not yours to turn. If you find one false, say at which input.
  Laid BY PROGRAM, IN A SANDBOX (cutbox-rows.mjs): the forced cells as the released guide's own fill.sh prints them over the translation feec160ace300296… (all of the seat's roots in one cut). By AI agents, Wed Nov 11 2026. No macro, syntax, notation, axiom, sorry.
-/
import Derived.Test.YtlmnkakjmhgiaaaChecked
import GoSem.Claim
import GoSem.ClaimJoined
import GoSem.ClaimMapViews
import Derived.JoinedTies
import Derived.KernelRfl
namespace Go.Proofs.Ytlmnkakjmhgiaaa
/- THE CELL 'sum', in the pinned program and in every row, IS THE sha256 OF THE DUMP (.gsa) THAT YtlmnkakjmhgiaaaProg.lean LOADS. Nothing in Lean hashes anything: it is a label: what it is worth is what the hold of that sum in a sandbox is worth. -/
noncomputable def Try.pinned : Pinned := { name := "ytlmnkakjmhgiaaa", sum := "feec160ace30029663b3d05fef6cfbc96a339077bd896b178be2eb8cde8d8819", checked := Try.checked }
namespace Rows
def none {H : Type} : Left H := { results := [], args := [] }

/-- 'quicksetlaw.ParRebuilds': WHATEVER THE INPUT: true; the input reads as it did. -/
def parRebuildsSpec : ChangeSpec := { name := "parRebuilds", fn := fun _ => fun
  | [d1, d2, d3] => { results := [.lit (.bool true)], args := [d1, d2, d3] }
  | _ => none }
def parRebuildsRow : OpenClaim := { program := "ytlmnkakjmhgiaaa", sum := "feec160ace30029663b3d05fef6cfbc96a339077bd896b178be2eb8cde8d8819", func := "quickset/quicksetlaw.ParRebuilds", spec := "parRebuilds", unfollowed := true, recurses := true, apart := false }
def ParRebuildsSaid : Prop := parRebuildsRow.holds Try.pinned (OpenSpec.ofChange parRebuildsSpec)

/-- ITS FALSE NEIGHBOUR: 'it returns false'. Refute it at one input. -/
def parRebuildsWrong : ChangeSpec := { name := "parRebuilds", fn := fun _ => fun
  | [d1, d2, d3] => { results := [.lit (.bool false)], args := [d1, d2, d3] }
  | _ => none }
def ParRebuildsWrongFalsely : Prop := parRebuildsRow.holds Try.pinned (OpenSpec.ofChange parRebuildsWrong)

/-- 'quicksetlaw.FletOfs': WHATEVER THE INPUT: true; the input reads as it did. -/
def fletOfsSpec : ChangeSpec := { name := "fletOfs", fn := fun _ => fun
  | [d] => { results := [.lit (.bool true)], args := [d] }
  | _ => none }
def fletOfsRow : OpenClaim := { program := "ytlmnkakjmhgiaaa", sum := "feec160ace30029663b3d05fef6cfbc96a339077bd896b178be2eb8cde8d8819", func := "quickset/quicksetlaw.FletOfs", spec := "fletOfs", apart := false }
def FletOfsSaid : Prop := fletOfsRow.holds Try.pinned (OpenSpec.ofChange fletOfsSpec)

/-- ITS FALSE NEIGHBOUR: 'it returns false'. Refute it at one input. -/
def fletOfsWrong : ChangeSpec := { name := "fletOfs", fn := fun _ => fun
  | [d] => { results := [.lit (.bool false)], args := [d] }
  | _ => none }
def FletOfsWrongFalsely : Prop := fletOfsRow.holds Try.pinned (OpenSpec.ofChange fletOfsWrong)

/-- 'quicksetlaw.FletMores': WHATEVER THE INPUT: true; the input reads as it did. -/
def fletMoresSpec : ChangeSpec := { name := "fletMores", fn := fun _ => fun
  | [d1, d2] => { results := [.lit (.bool true)], args := [d1, d2] }
  | _ => none }
def fletMoresRow : OpenClaim := { program := "ytlmnkakjmhgiaaa", sum := "feec160ace30029663b3d05fef6cfbc96a339077bd896b178be2eb8cde8d8819", func := "quickset/quicksetlaw.FletMores", spec := "fletMores", apart := false }
def FletMoresSaid : Prop := fletMoresRow.holds Try.pinned (OpenSpec.ofChange fletMoresSpec)

/-- ITS FALSE NEIGHBOUR: 'it returns false'. Refute it at one input. -/
def fletMoresWrong : ChangeSpec := { name := "fletMores", fn := fun _ => fun
  | [d1, d2] => { results := [.lit (.bool false)], args := [d1, d2] }
  | _ => none }
def FletMoresWrongFalsely : Prop := fletMoresRow.holds Try.pinned (OpenSpec.ofChange fletMoresWrong)

/-- 'quicksetlaw.FletJoins': WHATEVER THE INPUT: true; the input reads as it did. -/
def fletJoinsSpec : ChangeSpec := { name := "fletJoins", fn := fun _ => fun
  | [d1, d2, d3] => { results := [.lit (.bool true)], args := [d1, d2, d3] }
  | _ => none }
def fletJoinsRow : OpenClaim := { program := "ytlmnkakjmhgiaaa", sum := "feec160ace30029663b3d05fef6cfbc96a339077bd896b178be2eb8cde8d8819", func := "quickset/quicksetlaw.FletJoins", spec := "fletJoins", apart := false }
def FletJoinsSaid : Prop := fletJoinsRow.holds Try.pinned (OpenSpec.ofChange fletJoinsSpec)

/-- ITS FALSE NEIGHBOUR: 'it returns false'. Refute it at one input. -/
def fletJoinsWrong : ChangeSpec := { name := "fletJoins", fn := fun _ => fun
  | [d1, d2, d3] => { results := [.lit (.bool false)], args := [d1, d2, d3] }
  | _ => none }
def FletJoinsWrongFalsely : Prop := fletJoinsRow.holds Try.pinned (OpenSpec.ofChange fletJoinsWrong)

/-- 'quicksetkeep.FletParts': WHATEVER THE INPUT: true; the input reads as it did. -/
def fletPartsSpec : ChangeSpec := { name := "fletParts", fn := fun _ => fun
  | [d1, d2] => { results := [.lit (.bool true)], args := [d1, d2] }
  | _ => none }
def fletPartsRow : OpenClaim := { program := "ytlmnkakjmhgiaaa", sum := "feec160ace30029663b3d05fef6cfbc96a339077bd896b178be2eb8cde8d8819", func := "quickset/quicksetkeep.FletParts", spec := "fletParts", apart := false }
def FletPartsSaid : Prop := fletPartsRow.holds Try.pinned (OpenSpec.ofChange fletPartsSpec)

/-- ITS FALSE NEIGHBOUR: 'it returns false'. Refute it at one input. -/
def fletPartsWrong : ChangeSpec := { name := "fletParts", fn := fun _ => fun
  | [d1, d2] => { results := [.lit (.bool false)], args := [d1, d2] }
  | _ => none }
def FletPartsWrongFalsely : Prop := fletPartsRow.holds Try.pinned (OpenSpec.ofChange fletPartsWrong)

/-- 'quicksetkeep.FletChanged': WHATEVER THE INPUT: true; the input reads as it did. -/
def fletChangedSpec : ChangeSpec := { name := "fletChanged", fn := fun _ => fun
  | [d1, d2, d3] => { results := [.lit (.bool true)], args := [d1, d2, d3] }
  | _ => none }
def fletChangedRow : OpenClaim := { program := "ytlmnkakjmhgiaaa", sum := "feec160ace30029663b3d05fef6cfbc96a339077bd896b178be2eb8cde8d8819", func := "quickset/quicksetkeep.FletChanged", spec := "fletChanged", apart := false }
def FletChangedSaid : Prop := fletChangedRow.holds Try.pinned (OpenSpec.ofChange fletChangedSpec)

/-- ITS FALSE NEIGHBOUR: 'it returns false'. Refute it at one input. -/
def fletChangedWrong : ChangeSpec := { name := "fletChanged", fn := fun _ => fun
  | [d1, d2, d3] => { results := [.lit (.bool false)], args := [d1, d2, d3] }
  | _ => none }
def FletChangedWrongFalsely : Prop := fletChangedRow.holds Try.pinned (OpenSpec.ofChange fletChangedWrong)

/- THE SECOND FORM. 'bulk': how many values and letters a reading holds, each counted each time it is reached (what is shared counts as often as it is met; a slice's spare places count too). A statement '..UptoSaid' is the law's where the arguments, and the package variables that the reading takes, are together of bulk at most 1048576: NARROWER than '..Said'. Prove '..Said' where nothing that the law and all that it calls make is longer than what came in: it says more and counts as full. Else prove '..UptoSaid'. A law counts once. -/
mutual
def uptoBulk {H : Type} : DataW H → Nat
  | .lit (.string bytes) => bytes.length + 1
  | .lit _ => 1
  | .nil => 1
  | .ptr d => uptoBulk d + 1
  | .slice elems spare => uptoBulkAll elems + uptoBulkAll spare + 1
  | .agg parts => uptoBulkAll parts + 1
  | .iface _ d => uptoBulk d + 1
  | .map entries => uptoBulkEntries entries + 1
  | .held _ => 1
def uptoBulkAll {H : Type} : List (DataW H) → Nat
  | [] => 0
  | d :: r => uptoBulk d + uptoBulkAll r
def uptoBulkEntries {H : Type} : List (Lit × DataW H) → Nat
  | [] => 0
  | x :: r => uptoBulkEntry x + uptoBulkEntries r
def uptoBulkEntry {H : Type} : Lit × DataW H → Nat
  | (.string bytes, d) => bytes.length + uptoBulk d + 1
  | (_, d) => uptoBulk d + 1
 end
def uptoSmall : (H : Type) → List (DataW H) → Bool := fun _ ds => decide (uptoBulkAll ds ≤ 1048576)
def OpenSpec.upto (s : _root_.Go.ChangeSpec) : _root_.Go.OpenSpec := { _root_.Go.OpenSpec.ofChange s with cond := some uptoSmall }

/-- 'quicksetlaw.ParRebuilds', WHERE WHAT IT READS IS OF BULK AT MOST 1048576: true; the input reads as it did. -/
def parRebuildsUptoRow : OpenClaim := { program := "ytlmnkakjmhgiaaa", sum := "feec160ace30029663b3d05fef6cfbc96a339077bd896b178be2eb8cde8d8819", func := "quickset/quicksetlaw.ParRebuilds", spec := "parRebuilds", unfollowed := true, recurses := true, apart := false, narrowed := true }
def ParRebuildsUptoSaid : Prop := parRebuildsUptoRow.holds Try.pinned (OpenSpec.upto parRebuildsSpec)

/-- 'quicksetlaw.FletOfs', WHERE WHAT IT READS IS OF BULK AT MOST 1048576: true; the input reads as it did. -/
def fletOfsUptoRow : OpenClaim := { program := "ytlmnkakjmhgiaaa", sum := "feec160ace30029663b3d05fef6cfbc96a339077bd896b178be2eb8cde8d8819", func := "quickset/quicksetlaw.FletOfs", spec := "fletOfs", apart := false, narrowed := true }
def FletOfsUptoSaid : Prop := fletOfsUptoRow.holds Try.pinned (OpenSpec.upto fletOfsSpec)

/-- 'quicksetlaw.FletMores', WHERE WHAT IT READS IS OF BULK AT MOST 1048576: true; the input reads as it did. -/
def fletMoresUptoRow : OpenClaim := { program := "ytlmnkakjmhgiaaa", sum := "feec160ace30029663b3d05fef6cfbc96a339077bd896b178be2eb8cde8d8819", func := "quickset/quicksetlaw.FletMores", spec := "fletMores", apart := false, narrowed := true }
def FletMoresUptoSaid : Prop := fletMoresUptoRow.holds Try.pinned (OpenSpec.upto fletMoresSpec)

/-- 'quicksetlaw.FletJoins', WHERE WHAT IT READS IS OF BULK AT MOST 1048576: true; the input reads as it did. -/
def fletJoinsUptoRow : OpenClaim := { program := "ytlmnkakjmhgiaaa", sum := "feec160ace30029663b3d05fef6cfbc96a339077bd896b178be2eb8cde8d8819", func := "quickset/quicksetlaw.FletJoins", spec := "fletJoins", apart := false, narrowed := true }
def FletJoinsUptoSaid : Prop := fletJoinsUptoRow.holds Try.pinned (OpenSpec.upto fletJoinsSpec)

/-- 'quicksetkeep.FletParts', WHERE WHAT IT READS IS OF BULK AT MOST 1048576: true; the input reads as it did. -/
def fletPartsUptoRow : OpenClaim := { program := "ytlmnkakjmhgiaaa", sum := "feec160ace30029663b3d05fef6cfbc96a339077bd896b178be2eb8cde8d8819", func := "quickset/quicksetkeep.FletParts", spec := "fletParts", apart := false, narrowed := true }
def FletPartsUptoSaid : Prop := fletPartsUptoRow.holds Try.pinned (OpenSpec.upto fletPartsSpec)

/-- 'quicksetkeep.FletChanged', WHERE WHAT IT READS IS OF BULK AT MOST 1048576: true; the input reads as it did. -/
def fletChangedUptoRow : OpenClaim := { program := "ytlmnkakjmhgiaaa", sum := "feec160ace30029663b3d05fef6cfbc96a339077bd896b178be2eb8cde8d8819", func := "quickset/quicksetkeep.FletChanged", spec := "fletChanged", apart := false, narrowed := true }
def FletChangedUptoSaid : Prop := fletChangedUptoRow.holds Try.pinned (OpenSpec.upto fletChangedSpec)

end Rows
end Go.Proofs.Ytlmnkakjmhgiaaa
