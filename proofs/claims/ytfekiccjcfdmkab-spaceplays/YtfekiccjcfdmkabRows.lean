/-
  No cell of these rows narrows 'for every input' (looked for: loops, veiled, ifaces, maps, wideKeys, modest, calm, conditions, laid).
  DERIVED. THE GIVEN ROWS OF THIS SEAT. 6 by the template 'for every input the law returns true; each argument reads behind the call as it read before'; 0 by the template 'total and deterministic' (their statements: YtfekiccjcfdmkabTotals.lean).
  GIVEN WITH THE SEED: the statements are not yours to turn. If you find one false, say at which input.
  Laid BY PROGRAM, IN A SANDBOX (cutbox-rows.mjs): the forced cells as the released guide's own fill.sh prints them over the translation cf00ecff152cce9b… (all of the seat's roots in one cut). By AI agents, Wed Nov 11 2026. No macro, syntax, notation, axiom, sorry.
-/
import Derived.Test.YtfekiccjcfdmkabChecked
import GoSem.Claim
import GoSem.ClaimJoined
import GoSem.ClaimMapViews
import Derived.JoinedTies
import Derived.KernelRfl
namespace Go.Proofs.Ytfekiccjcfdmkab
/- THE CELL 'sum', in the pinned program and in every row, IS THE sha256 OF THE DUMP (.gsa) THAT YtfekiccjcfdmkabProg.lean LOADS. Nothing in Lean hashes anything: it is a label: what it is worth is what the hold of that sum in a sandbox is worth. -/
noncomputable def Try.pinned : Pinned := { name := "ytfekiccjcfdmkab", sum := "cf00ecff152cce9bc25bb58921d4598ceb3d251f435cfa255c4f9664b67ea9bd", checked := Try.checked }
namespace Rows
def none {H : Type} : Left H := { results := [], args := [] }

/-- 'quicksetkeep.SpanFirstFits': WHATEVER THE INPUT: true; the input reads as it did. -/
def spanFirstFitsSpec : ChangeSpec := { name := "spanFirstFits", fn := fun _ => fun
  | [d1, d2] => { results := [.lit (.bool true)], args := [d1, d2] }
  | _ => none }
def spanFirstFitsRow : OpenClaim := { program := "ytfekiccjcfdmkab", sum := "cf00ecff152cce9bc25bb58921d4598ceb3d251f435cfa255c4f9664b67ea9bd", func := "quickset/quicksetkeep.SpanFirstFits", spec := "spanFirstFits", unfollowed := true, recurses := true, apart := false }
def SpanFirstFitsSaid : Prop := spanFirstFitsRow.holds Try.pinned (OpenSpec.ofChange spanFirstFitsSpec)

/-- ITS FALSE NEIGHBOUR: 'it returns false'. Refute it at one input. -/
def spanFirstFitsWrong : ChangeSpec := { name := "spanFirstFits", fn := fun _ => fun
  | [d1, d2] => { results := [.lit (.bool false)], args := [d1, d2] }
  | _ => none }
def SpanFirstFitsWrongFalsely : Prop := spanFirstFitsRow.holds Try.pinned (OpenSpec.ofChange spanFirstFitsWrong)

/-- 'quicksetlaw.SpacePlays': WHATEVER THE INPUT: true; the input reads as it did. -/
def spacePlaysSpec : ChangeSpec := { name := "spacePlays", fn := fun _ => fun
  | [d1, d2] => { results := [.lit (.bool true)], args := [d1, d2] }
  | _ => none }
def spacePlaysRow : OpenClaim := { program := "ytfekiccjcfdmkab", sum := "cf00ecff152cce9bc25bb58921d4598ceb3d251f435cfa255c4f9664b67ea9bd", func := "quickset/quicksetlaw.SpacePlays", spec := "spacePlays", unfollowed := true, recurses := true, apart := false }
def SpacePlaysSaid : Prop := spacePlaysRow.holds Try.pinned (OpenSpec.ofChange spacePlaysSpec)

/-- ITS FALSE NEIGHBOUR: 'it returns false'. Refute it at one input. -/
def spacePlaysWrong : ChangeSpec := { name := "spacePlays", fn := fun _ => fun
  | [d1, d2] => { results := [.lit (.bool false)], args := [d1, d2] }
  | _ => none }
def SpacePlaysWrongFalsely : Prop := spacePlaysRow.holds Try.pinned (OpenSpec.ofChange spacePlaysWrong)

/-- 'quicksetlaw.SpaceReplays': WHATEVER THE INPUT: true; the input reads as it did. -/
def spaceReplaysSpec : ChangeSpec := { name := "spaceReplays", fn := fun _ => fun
  | [d1, d2] => { results := [.lit (.bool true)], args := [d1, d2] }
  | _ => none }
def spaceReplaysRow : OpenClaim := { program := "ytfekiccjcfdmkab", sum := "cf00ecff152cce9bc25bb58921d4598ceb3d251f435cfa255c4f9664b67ea9bd", func := "quickset/quicksetlaw.SpaceReplays", spec := "spaceReplays", unfollowed := true, recurses := true, apart := false }
def SpaceReplaysSaid : Prop := spaceReplaysRow.holds Try.pinned (OpenSpec.ofChange spaceReplaysSpec)

/-- ITS FALSE NEIGHBOUR: 'it returns false'. Refute it at one input. -/
def spaceReplaysWrong : ChangeSpec := { name := "spaceReplays", fn := fun _ => fun
  | [d1, d2] => { results := [.lit (.bool false)], args := [d1, d2] }
  | _ => none }
def SpaceReplaysWrongFalsely : Prop := spaceReplaysRow.holds Try.pinned (OpenSpec.ofChange spaceReplaysWrong)

/-- 'quicksetlaw.SpaceCondenses': WHATEVER THE INPUT: true; the input reads as it did. -/
def spaceCondensesSpec : ChangeSpec := { name := "spaceCondenses", fn := fun _ => fun
  | [d1, d2] => { results := [.lit (.bool true)], args := [d1, d2] }
  | _ => none }
def spaceCondensesRow : OpenClaim := { program := "ytfekiccjcfdmkab", sum := "cf00ecff152cce9bc25bb58921d4598ceb3d251f435cfa255c4f9664b67ea9bd", func := "quickset/quicksetlaw.SpaceCondenses", spec := "spaceCondenses", unfollowed := true, recurses := true, apart := false }
def SpaceCondensesSaid : Prop := spaceCondensesRow.holds Try.pinned (OpenSpec.ofChange spaceCondensesSpec)

/-- ITS FALSE NEIGHBOUR: 'it returns false'. Refute it at one input. -/
def spaceCondensesWrong : ChangeSpec := { name := "spaceCondenses", fn := fun _ => fun
  | [d1, d2] => { results := [.lit (.bool false)], args := [d1, d2] }
  | _ => none }
def SpaceCondensesWrongFalsely : Prop := spaceCondensesRow.holds Try.pinned (OpenSpec.ofChange spaceCondensesWrong)

/-- 'quicksetkeep.TakeApart': WHATEVER THE INPUT: true; the input reads as it did. -/
def takeApartSpec : ChangeSpec := { name := "takeApart", fn := fun _ => fun
  | [d1, d2] => { results := [.lit (.bool true)], args := [d1, d2] }
  | _ => none }
def takeApartRow : OpenClaim := { program := "ytfekiccjcfdmkab", sum := "cf00ecff152cce9bc25bb58921d4598ceb3d251f435cfa255c4f9664b67ea9bd", func := "quickset/quicksetkeep.TakeApart", spec := "takeApart", unfollowed := true, recurses := true, apart := false }
def TakeApartSaid : Prop := takeApartRow.holds Try.pinned (OpenSpec.ofChange takeApartSpec)

/-- ITS FALSE NEIGHBOUR: 'it returns false'. Refute it at one input. -/
def takeApartWrong : ChangeSpec := { name := "takeApart", fn := fun _ => fun
  | [d1, d2] => { results := [.lit (.bool false)], args := [d1, d2] }
  | _ => none }
def TakeApartWrongFalsely : Prop := takeApartRow.holds Try.pinned (OpenSpec.ofChange takeApartWrong)

/-- 'quicksetkeep.ReplaySame': WHATEVER THE INPUT: true; the input reads as it did. -/
def replaySameSpec : ChangeSpec := { name := "replaySame", fn := fun _ => fun
  | [d1, d2] => { results := [.lit (.bool true)], args := [d1, d2] }
  | _ => none }
def replaySameRow : OpenClaim := { program := "ytfekiccjcfdmkab", sum := "cf00ecff152cce9bc25bb58921d4598ceb3d251f435cfa255c4f9664b67ea9bd", func := "quickset/quicksetkeep.ReplaySame", spec := "replaySame", unfollowed := true, recurses := true, apart := false }
def ReplaySameSaid : Prop := replaySameRow.holds Try.pinned (OpenSpec.ofChange replaySameSpec)

/-- ITS FALSE NEIGHBOUR: 'it returns false'. Refute it at one input. -/
def replaySameWrong : ChangeSpec := { name := "replaySame", fn := fun _ => fun
  | [d1, d2] => { results := [.lit (.bool false)], args := [d1, d2] }
  | _ => none }
def ReplaySameWrongFalsely : Prop := replaySameRow.holds Try.pinned (OpenSpec.ofChange replaySameWrong)

/- THE SECOND FORM. 'bulk': how many values and letters a reading holds, each counted each time it is reached (what is shared counts as often as it is met; a slice's spare places count too). A statement '..UptoSaid' is the law's where the arguments, and the package variables that the reading takes, are together of bulk at most 1048576: NARROWER than '..Said'. Prove '..Said' where nothing that the law and all that it calls make is longer than what came in: it says more and counts as full. Else prove '..UptoSaid'. A law counts once. -/
mutual
def uptoBulk {H : Type} : DataW H → Nat
  | .lit (.string bytes) => bytes.length + 1
  | .lit _ => 1
  | .nil => 1
  | .ptr d => uptoBulk d + 1
  | .slice elems spare => uptoBulkAll elems + uptoBulkAll spare + 1
  | .agg parts => uptoBulkAll parts + 1
  | .iface _ d => uptoBulk d + 1
  | .map entries => uptoBulkEntries entries + 1
  | .held _ => 1
def uptoBulkAll {H : Type} : List (DataW H) → Nat
  | [] => 0
  | d :: r => uptoBulk d + uptoBulkAll r
def uptoBulkEntries {H : Type} : List (Lit × DataW H) → Nat
  | [] => 0
  | x :: r => uptoBulkEntry x + uptoBulkEntries r
def uptoBulkEntry {H : Type} : Lit × DataW H → Nat
  | (.string bytes, d) => bytes.length + uptoBulk d + 1
  | (_, d) => uptoBulk d + 1
 end
def uptoSmall : (H : Type) → List (DataW H) → Bool := fun _ ds => decide (uptoBulkAll ds ≤ 1048576)
def OpenSpec.upto (s : _root_.Go.ChangeSpec) : _root_.Go.OpenSpec := { _root_.Go.OpenSpec.ofChange s with cond := some uptoSmall }

/-- 'quicksetkeep.SpanFirstFits', WHERE WHAT IT READS IS OF BULK AT MOST 1048576: true; the input reads as it did. -/
def spanFirstFitsUptoRow : OpenClaim := { program := "ytfekiccjcfdmkab", sum := "cf00ecff152cce9bc25bb58921d4598ceb3d251f435cfa255c4f9664b67ea9bd", func := "quickset/quicksetkeep.SpanFirstFits", spec := "spanFirstFits", unfollowed := true, recurses := true, apart := false, narrowed := true }
def SpanFirstFitsUptoSaid : Prop := spanFirstFitsUptoRow.holds Try.pinned (OpenSpec.upto spanFirstFitsSpec)

/-- 'quicksetlaw.SpacePlays', WHERE WHAT IT READS IS OF BULK AT MOST 1048576: true; the input reads as it did. -/
def spacePlaysUptoRow : OpenClaim := { program := "ytfekiccjcfdmkab", sum := "cf00ecff152cce9bc25bb58921d4598ceb3d251f435cfa255c4f9664b67ea9bd", func := "quickset/quicksetlaw.SpacePlays", spec := "spacePlays", unfollowed := true, recurses := true, apart := false, narrowed := true }
def SpacePlaysUptoSaid : Prop := spacePlaysUptoRow.holds Try.pinned (OpenSpec.upto spacePlaysSpec)

/-- 'quicksetlaw.SpaceReplays', WHERE WHAT IT READS IS OF BULK AT MOST 1048576: true; the input reads as it did. -/
def spaceReplaysUptoRow : OpenClaim := { program := "ytfekiccjcfdmkab", sum := "cf00ecff152cce9bc25bb58921d4598ceb3d251f435cfa255c4f9664b67ea9bd", func := "quickset/quicksetlaw.SpaceReplays", spec := "spaceReplays", unfollowed := true, recurses := true, apart := false, narrowed := true }
def SpaceReplaysUptoSaid : Prop := spaceReplaysUptoRow.holds Try.pinned (OpenSpec.upto spaceReplaysSpec)

/-- 'quicksetlaw.SpaceCondenses', WHERE WHAT IT READS IS OF BULK AT MOST 1048576: true; the input reads as it did. -/
def spaceCondensesUptoRow : OpenClaim := { program := "ytfekiccjcfdmkab", sum := "cf00ecff152cce9bc25bb58921d4598ceb3d251f435cfa255c4f9664b67ea9bd", func := "quickset/quicksetlaw.SpaceCondenses", spec := "spaceCondenses", unfollowed := true, recurses := true, apart := false, narrowed := true }
def SpaceCondensesUptoSaid : Prop := spaceCondensesUptoRow.holds Try.pinned (OpenSpec.upto spaceCondensesSpec)

/-- 'quicksetkeep.TakeApart', WHERE WHAT IT READS IS OF BULK AT MOST 1048576: true; the input reads as it did. -/
def takeApartUptoRow : OpenClaim := { program := "ytfekiccjcfdmkab", sum := "cf00ecff152cce9bc25bb58921d4598ceb3d251f435cfa255c4f9664b67ea9bd", func := "quickset/quicksetkeep.TakeApart", spec := "takeApart", unfollowed := true, recurses := true, apart := false, narrowed := true }
def TakeApartUptoSaid : Prop := takeApartUptoRow.holds Try.pinned (OpenSpec.upto takeApartSpec)

/-- 'quicksetkeep.ReplaySame', WHERE WHAT IT READS IS OF BULK AT MOST 1048576: true; the input reads as it did. -/
def replaySameUptoRow : OpenClaim := { program := "ytfekiccjcfdmkab", sum := "cf00ecff152cce9bc25bb58921d4598ceb3d251f435cfa255c4f9664b67ea9bd", func := "quickset/quicksetkeep.ReplaySame", spec := "replaySame", unfollowed := true, recurses := true, apart := false, narrowed := true }
def ReplaySameUptoSaid : Prop := replaySameUptoRow.holds Try.pinned (OpenSpec.upto replaySameSpec)

end Rows
end Go.Proofs.Ytfekiccjcfdmkab
