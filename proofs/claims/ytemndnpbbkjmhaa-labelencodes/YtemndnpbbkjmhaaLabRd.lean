/-
  label.readSum; the world only grows.
-/
import Derived.Test.YtemndnpbbkjmhaaLabSum
namespace Go.Proofs.Ytemndnpbbkjmhaa
open Go.RowKit Go.Deep E
/-- the k-th number of eight bytes -/
def rd8 (B : Nat → E) (k : Nat) : Int := wrap64 (rdN (fun i => B (8 * k + i)) 8)
def rdK (B : Nat → E) (k i : Nat) : Int := if i < k then rd8 B i else 0
theorem rdK_put (B : Nat → E) (k : Nat) (v : Int) (hv : v = rd8 B k) (i : Nat) : (if i = k then Value.int .i64 v else ivs (rdK B k) i) = ivs (rdK B (k + 1)) i := by
  unfold ivs rdK
  by_cases e : i = k
  · subst e
    rw [if_pos rfl, if_pos (by omega), hv]
  · rw [if_neg e]
    by_cases l : i < k
    · rw [if_pos l, if_pos (by omega)]
    · rw [if_neg l, if_neg (by omega)]
end Go.Proofs.Ytemndnpbbkjmhaa
