/-
  quicksetref.CombAll, CombAt: the picks, and the one with a number.
-/
import Derived.Test.YthgbfakmkdifbaaChecked
import Derived.WalkKit
import Derived.Test.YthgbfakmkdifbaaRefPicks
namespace Go.Proofs.Ythgbfakmkdifbaa
open Go.RowKit Go.Deep E
theorem zeroI : ((0 : Nat) : Int) = 0 := rfl
/-- the numbers of a pick, as a function of the place -/
def pkF (p : List Nat) (i : Nat) : Int := ((p[i]?.getD 0 : Nat) : Int)
theorem own_intsA {w : World} {base : Nat} {e : TypeId} {a : Option Addr} {c n : Nat} {p : List Nat} (hn : p.length = n) (h : w.ownsRow base e 1 (.slice a n c) n (p.map nV)) : Ints w a n (pkF p) := by
  subst hn
  intro i hi
  obtain ⟨b, o, h1, h2⟩ := own_slice_at h i hi
  refine ⟨b, o, h1, ?_⟩
  rw [h2]
  simp [hi, nV, pkF]
end Go.Proofs.Ythgbfakmkdifbaa
