/-
  No cell of these rows narrows 'for every input' (looked for: loops, veiled, ifaces, maps, wideKeys, modest, calm, conditions, laid).
  DERIVED. THE GIVEN ROWS OF THIS SEAT. 5 by the template 'for every input the law returns true; each argument reads behind the call as it read before'; 0 by the template 'total and deterministic' (their statements: YtgboboojjboocaaTotals.lean).
  GIVEN WITH THE SEED: the statements are not yours to turn. If you find one false, say at which input.
  Laid BY PROGRAM, IN A SANDBOX (cutbox-rows.mjs): the forced cells as the released guide's own fill.sh prints them over the translation ea96d92afc3b14da… (all of the seat's roots in one cut). By AI agents, Wed Nov 11 2026. No macro, syntax, notation, axiom, sorry.
-/
import Derived.Test.YtgboboojjboocaaChecked
import GoSem.Claim
import GoSem.ClaimJoined
import GoSem.ClaimMapViews
import Derived.JoinedTies
import Derived.KernelRfl
namespace Go.Proofs.Ytgboboojjboocaa
/- THE CELL 'sum', in the pinned program and in every row, IS THE sha256 OF THE DUMP (.gsa) THAT YtgboboojjboocaaProg.lean LOADS. Nothing in Lean hashes anything: it is a label: what it is worth is what the hold of that sum in a sandbox is worth. -/
noncomputable def Try.pinned : Pinned := { name := "ytgboboojjboocaa", sum := "ea96d92afc3b14da54ffb4af6a07853bc6b005fca581e82eed76120403efe0cd", checked := Try.checked }
namespace Rows
def none {H : Type} : Left H := { results := [], args := [] }

/-- 'quicksetlaw.DrivePlays': WHATEVER THE INPUT: true; the input reads as it did. -/
def drivePlaysSpec : ChangeSpec := { name := "drivePlays", fn := fun _ => fun
  | [d1, d2] => { results := [.lit (.bool true)], args := [d1, d2] }
  | _ => none }
def drivePlaysRow : OpenClaim := { program := "ytgboboojjboocaa", sum := "ea96d92afc3b14da54ffb4af6a07853bc6b005fca581e82eed76120403efe0cd", func := "quickset/quicksetlaw.DrivePlays", spec := "drivePlays", unfollowed := true, recurses := true, apart := false }
def DrivePlaysSaid : Prop := drivePlaysRow.holds Try.pinned (OpenSpec.ofChange drivePlaysSpec)

/-- ITS FALSE NEIGHBOUR: 'it returns false'. Refute it at one input. -/
def drivePlaysWrong : ChangeSpec := { name := "drivePlays", fn := fun _ => fun
  | [d1, d2] => { results := [.lit (.bool false)], args := [d1, d2] }
  | _ => none }
def DrivePlaysWrongFalsely : Prop := drivePlaysRow.holds Try.pinned (OpenSpec.ofChange drivePlaysWrong)

/-- 'quicksetkeep.DriveStays': WHATEVER THE INPUT: true; the input reads as it did. -/
def driveStaysSpec : ChangeSpec := { name := "driveStays", fn := fun _ => fun
  | [d1, d2, d3] => { results := [.lit (.bool true)], args := [d1, d2, d3] }
  | _ => none }
def driveStaysRow : OpenClaim := { program := "ytgboboojjboocaa", sum := "ea96d92afc3b14da54ffb4af6a07853bc6b005fca581e82eed76120403efe0cd", func := "quickset/quicksetkeep.DriveStays", spec := "driveStays", unfollowed := true, recurses := true, apart := false }
def DriveStaysSaid : Prop := driveStaysRow.holds Try.pinned (OpenSpec.ofChange driveStaysSpec)

/-- ITS FALSE NEIGHBOUR: 'it returns false'. Refute it at one input. -/
def driveStaysWrong : ChangeSpec := { name := "driveStays", fn := fun _ => fun
  | [d1, d2, d3] => { results := [.lit (.bool false)], args := [d1, d2, d3] }
  | _ => none }
def DriveStaysWrongFalsely : Prop := driveStaysRow.holds Try.pinned (OpenSpec.ofChange driveStaysWrong)

/-- 'quicksetkeep.DriveAll': WHATEVER THE INPUT: true; the input reads as it did. -/
def driveAllSpec : ChangeSpec := { name := "driveAll", fn := fun _ => fun
  | [d] => { results := [.lit (.bool true)], args := [d] }
  | _ => none }
def driveAllRow : OpenClaim := { program := "ytgboboojjboocaa", sum := "ea96d92afc3b14da54ffb4af6a07853bc6b005fca581e82eed76120403efe0cd", func := "quickset/quicksetkeep.DriveAll", spec := "driveAll", unfollowed := true, recurses := true, apart := false }
def DriveAllSaid : Prop := driveAllRow.holds Try.pinned (OpenSpec.ofChange driveAllSpec)

/-- ITS FALSE NEIGHBOUR: 'it returns false'. Refute it at one input. -/
def driveAllWrong : ChangeSpec := { name := "driveAll", fn := fun _ => fun
  | [d] => { results := [.lit (.bool false)], args := [d] }
  | _ => none }
def DriveAllWrongFalsely : Prop := driveAllRow.holds Try.pinned (OpenSpec.ofChange driveAllWrong)

/-- 'quicksetkeep.DriveLast': WHATEVER THE INPUT: true; the input reads as it did. -/
def driveLastSpec : ChangeSpec := { name := "driveLast", fn := fun _ => fun
  | [d1, d2] => { results := [.lit (.bool true)], args := [d1, d2] }
  | _ => none }
def driveLastRow : OpenClaim := { program := "ytgboboojjboocaa", sum := "ea96d92afc3b14da54ffb4af6a07853bc6b005fca581e82eed76120403efe0cd", func := "quickset/quicksetkeep.DriveLast", spec := "driveLast", unfollowed := true, recurses := true, apart := false }
def DriveLastSaid : Prop := driveLastRow.holds Try.pinned (OpenSpec.ofChange driveLastSpec)

/-- ITS FALSE NEIGHBOUR: 'it returns false'. Refute it at one input. -/
def driveLastWrong : ChangeSpec := { name := "driveLast", fn := fun _ => fun
  | [d1, d2] => { results := [.lit (.bool false)], args := [d1, d2] }
  | _ => none }
def DriveLastWrongFalsely : Prop := driveLastRow.holds Try.pinned (OpenSpec.ofChange driveLastWrong)

/-- 'quicksetkeep.DriveDead': WHATEVER THE INPUT: true; the input reads as it did. -/
def driveDeadSpec : ChangeSpec := { name := "driveDead", fn := fun _ => fun
  | [d1, d2, d3] => { results := [.lit (.bool true)], args := [d1, d2, d3] }
  | _ => none }
def driveDeadRow : OpenClaim := { program := "ytgboboojjboocaa", sum := "ea96d92afc3b14da54ffb4af6a07853bc6b005fca581e82eed76120403efe0cd", func := "quickset/quicksetkeep.DriveDead", spec := "driveDead", unfollowed := true, recurses := true, apart := false }
def DriveDeadSaid : Prop := driveDeadRow.holds Try.pinned (OpenSpec.ofChange driveDeadSpec)

/-- ITS FALSE NEIGHBOUR: 'it returns false'. Refute it at one input. -/
def driveDeadWrong : ChangeSpec := { name := "driveDead", fn := fun _ => fun
  | [d1, d2, d3] => { results := [.lit (.bool false)], args := [d1, d2, d3] }
  | _ => none }
def DriveDeadWrongFalsely : Prop := driveDeadRow.holds Try.pinned (OpenSpec.ofChange driveDeadWrong)

/- THE SECOND FORM. 'bulk': how many values and letters a reading holds, each counted each time it is reached (what is shared counts as often as it is met; a slice's spare places count too). A statement '..UptoSaid' is the law's where the arguments, and the package variables that the reading takes, are together of bulk at most 1048576: NARROWER than '..Said'. Prove '..Said' where nothing that the law and all that it calls make is longer than what came in: it says more and counts as full. Else prove '..UptoSaid'. A law counts once. -/
mutual
def uptoBulk {H : Type} : DataW H → Nat
  | .lit (.string bytes) => bytes.length + 1
  | .lit _ => 1
  | .nil => 1
  | .ptr d => uptoBulk d + 1
  | .slice elems spare => uptoBulkAll elems + uptoBulkAll spare + 1
  | .agg parts => uptoBulkAll parts + 1
  | .iface _ d => uptoBulk d + 1
  | .map entries => uptoBulkEntries entries + 1
  | .held _ => 1
def uptoBulkAll {H : Type} : List (DataW H) → Nat
  | [] => 0
  | d :: r => uptoBulk d + uptoBulkAll r
def uptoBulkEntries {H : Type} : List (Lit × DataW H) → Nat
  | [] => 0
  | x :: r => uptoBulkEntry x + uptoBulkEntries r
def uptoBulkEntry {H : Type} : Lit × DataW H → Nat
  | (.string bytes, d) => bytes.length + uptoBulk d + 1
  | (_, d) => uptoBulk d + 1
 end
def uptoSmall : (H : Type) → List (DataW H) → Bool := fun _ ds => decide (uptoBulkAll ds ≤ 1048576)
def OpenSpec.upto (s : _root_.Go.ChangeSpec) : _root_.Go.OpenSpec := { _root_.Go.OpenSpec.ofChange s with cond := some uptoSmall }

/-- 'quicksetlaw.DrivePlays', WHERE WHAT IT READS IS OF BULK AT MOST 1048576: true; the input reads as it did. -/
def drivePlaysUptoRow : OpenClaim := { program := "ytgboboojjboocaa", sum := "ea96d92afc3b14da54ffb4af6a07853bc6b005fca581e82eed76120403efe0cd", func := "quickset/quicksetlaw.DrivePlays", spec := "drivePlays", unfollowed := true, recurses := true, apart := false, narrowed := true }
def DrivePlaysUptoSaid : Prop := drivePlaysUptoRow.holds Try.pinned (OpenSpec.upto drivePlaysSpec)

/-- 'quicksetkeep.DriveStays', WHERE WHAT IT READS IS OF BULK AT MOST 1048576: true; the input reads as it did. -/
def driveStaysUptoRow : OpenClaim := { program := "ytgboboojjboocaa", sum := "ea96d92afc3b14da54ffb4af6a07853bc6b005fca581e82eed76120403efe0cd", func := "quickset/quicksetkeep.DriveStays", spec := "driveStays", unfollowed := true, recurses := true, apart := false, narrowed := true }
def DriveStaysUptoSaid : Prop := driveStaysUptoRow.holds Try.pinned (OpenSpec.upto driveStaysSpec)

/-- 'quicksetkeep.DriveAll', WHERE WHAT IT READS IS OF BULK AT MOST 1048576: true; the input reads as it did. -/
def driveAllUptoRow : OpenClaim := { program := "ytgboboojjboocaa", sum := "ea96d92afc3b14da54ffb4af6a07853bc6b005fca581e82eed76120403efe0cd", func := "quickset/quicksetkeep.DriveAll", spec := "driveAll", unfollowed := true, recurses := true, apart := false, narrowed := true }
def DriveAllUptoSaid : Prop := driveAllUptoRow.holds Try.pinned (OpenSpec.upto driveAllSpec)

/-- 'quicksetkeep.DriveLast', WHERE WHAT IT READS IS OF BULK AT MOST 1048576: true; the input reads as it did. -/
def driveLastUptoRow : OpenClaim := { program := "ytgboboojjboocaa", sum := "ea96d92afc3b14da54ffb4af6a07853bc6b005fca581e82eed76120403efe0cd", func := "quickset/quicksetkeep.DriveLast", spec := "driveLast", unfollowed := true, recurses := true, apart := false, narrowed := true }
def DriveLastUptoSaid : Prop := driveLastUptoRow.holds Try.pinned (OpenSpec.upto driveLastSpec)

/-- 'quicksetkeep.DriveDead', WHERE WHAT IT READS IS OF BULK AT MOST 1048576: true; the input reads as it did. -/
def driveDeadUptoRow : OpenClaim := { program := "ytgboboojjboocaa", sum := "ea96d92afc3b14da54ffb4af6a07853bc6b005fca581e82eed76120403efe0cd", func := "quickset/quicksetkeep.DriveDead", spec := "driveDead", unfollowed := true, recurses := true, apart := false, narrowed := true }
def DriveDeadUptoSaid : Prop := driveDeadUptoRow.holds Try.pinned (OpenSpec.upto driveDeadSpec)

end Rows
end Go.Proofs.Ytgboboojjboocaa
