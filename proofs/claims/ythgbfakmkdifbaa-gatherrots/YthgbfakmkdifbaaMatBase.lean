/-
  Lists that are told; rows of which some places are made.
-/
import Derived.Test.YthgbfakmkdifbaaChecked
import Derived.WalkKit
import Derived.Test.YthgbfakmkdifbaaMatOps
import Derived.Test.YthgbfakmkdifbaaMats
import Derived.Test.YthgbfakmkdifbaaMk
namespace Go.Proofs.Ythgbfakmkdifbaa
open Go.RowKit Go.Deep E
/-- a list of n numbers is told, and an error -/
def IntsRes (w : World) (e : Ending) (n : Nat) (f : Nat → Int) (er : Int) : Prop := ∃ a c, e = .returned (.tuple #[.slice a n c, .int .i64 er]) ∧ Ints w a n f
theorem Ints.nil (w : World) (a : Option Addr) (f : Nat → Int) : Ints w a 0 f := fun i hi => by omega
theorem Ints.row {w : World} {b t n : Nat} {f : Nat → Int} (h : w.rowIs b t n fun i => .int .i64 (f i)) : Ints w (some ⟨b, 0, none⟩) n f := Ints.mk fun i hi => by rw [Nat.zero_add]; exact h.cell hi
/-- a row of n sums of which the first k are made -/
def made (k : Nat) (f : Nat → Int) (i : Nat) : Int := if i < k then f i else 0
theorem made_next (k : Nat) (f : Nat → Int) : (fun j => if j = k then Value.int .i64 (f k) else Value.int .i64 (made k f j)) = fun j => Value.int .i64 (made (k + 1) f j) := by
  funext j
  by_cases e : j = k
  · subst e; rw [if_pos rfl]; unfold made; rw [if_pos (by omega)]
  · rw [if_neg e]; unfold made
    by_cases h : j < k
    · rw [if_pos h, if_pos (by omega)]
    · rw [if_neg h, if_neg (by omega)]
theorem els_of {n : Nat} {f : Nat → Int} {a : Option Addr} {w : World} (h : Ints w a n f) (hb : ∀ i, i < n → 0 ≤ f i ∧ f i < 256) : Ints w a n fun i => ev (of (f i)) := h.congr fun i hi => (ev_of _ (hb i hi).1 (hb i hi).2).symm
end Go.Proofs.Ythgbfakmkdifbaa
