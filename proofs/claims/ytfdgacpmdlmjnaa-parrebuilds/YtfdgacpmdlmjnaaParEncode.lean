/-
  par.Encode at every list of columns and every number: what it tells, as plain functions; the world only grows.
-/
import Derived.Test.YtfdgacpmdlmjnaaChecked
import Derived.WalkKit
import Derived.Test.YtfdgacpmdlmjnaaParMay
import Derived.Test.YtfdgacpmdlmjnaaParAdd
import Derived.Test.YtfdgacpmdlmjnaaByb
namespace Go.Proofs.Ytfdgacpmdlmjnaa
open Go.RowKit Go.Deep E
def encOk (n : Nat) (L : Nat → Nat) (p : Int) : Bool := pmayB n L && fromTo 1 3 p
def encN (n : Nat) (L : Nat → Nat) (p : Int) : Nat := if encOk n L p then p.toNat else 0
def encE (n : Nat) (L : Nat → Nat) (p : Int) : Int := if pmayB n L then if fromTo 1 3 p then 0 else 2 else 4
end Go.Proofs.Ytfdgacpmdlmjnaa
