/-
  mat.scale and mat.addTimes on rows of elements in memory: what the row is then; nothing else is written.
-/
import Derived.Test.YtemndnpbbkjmhabChecked
import Derived.WalkKit
import Derived.BigQuiet
import Derived.Test.YtemndnpbbkjmhabMatOps
import Derived.Test.YtemndnpbbkjmhabQuiets
import Derived.Test.YtemndnpbbkjmhabMm
namespace Go.Proofs.Ytemndnpbbkjmhab
open Go.RowKit Go.Deep E
/-- a row of n elements of which the first k have turned -/
def upto (k : Nat) (f g : Nat → E) (i : Nat) : E := if i < k then g i else f i
theorem upto_set (k : Nat) (f g : Nat → E) : (fun j => if j = k then Value.int .i64 (ev (g k)) else Value.int .i64 (ev (upto k f g j))) = fun j => Value.int .i64 (ev (upto (k + 1) f g j)) := by
  funext j
  unfold upto
  by_cases e : j = k
  · subst e; rw [if_pos rfl, if_pos (by omega)]
  · rw [if_neg e]
    by_cases l : j < k
    · rw [if_pos l, if_pos (by omega)]
    · rw [if_neg l, if_neg (by omega)]
theorem upto_at (k : Nat) (f g : Nat → E) : upto k f g k = f k := if_neg (by omega)
def evs (f : Nat → E) (i : Nat) : Value := .int .i64 (ev (f i))
end Go.Proofs.Ytemndnpbbkjmhab
