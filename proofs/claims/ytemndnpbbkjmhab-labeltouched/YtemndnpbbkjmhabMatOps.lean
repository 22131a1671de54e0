/-
  mat.plus, mat.times, mat.inverse of elements; mat.combined with a closure of which it is known what it tells; the world only grows.
-/
import Derived.Test.YtemndnpbbkjmhabChecked
import Derived.WalkKit
import Derived.Test.YtemndnpbbkjmhabGfs
import Derived.Test.YtemndnpbbkjmhabMm
import Derived.Test.YtemndnpbbkjmhabAlg
namespace Go.Proofs.Ytemndnpbbkjmhab
open Go.RowKit E
theorem pair_ev (x y : E) : pairB (ev x) (ev y) = true := by
  have hx := ev_bd x
  have hy := ev_bd y
  unfold pairB; rw [elB_of _ (by omega) (by omega), elB_of _ (by omega) (by omega)]; rfl
theorem addV_ev (x y : E) : addV (ev x) (ev y) = ev (ad x y) := by rw [addV, if_pos (pair_ev x y)]; rfl
theorem mulV_ev (x y : E) : mulV (ev x) (ev y) = ev (mu x y) := by rw [mulV, if_pos (pair_ev x y)]; rfl
theorem rangeE_ev (x y : E) : rangeE (ev x) (ev y) = 0 := by rw [rangeE, if_pos (pair_ev x y)]
theorem divV_ev (x y : E) (h : y ≠ ze) : divV (ev x) (ev y) = ev (mu x (iv y)) := by
  rw [divV, if_pos (pair_ev x y), if_neg (fun e => h (ev_inj (e.trans ev_ze.symm)))]; rfl
/-- the sum of the products of the row and what g tells, place by place: the first n -/
def dot (n : Nat) (f g : Nat → E) : E := sm n fun i => mu (f i) (g i)
end Go.Proofs.Ytemndnpbbkjmhab
