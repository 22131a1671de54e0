/-
  par.copied and par.places with the closures of par.Rebuild: plain answers; the world only grows.
-/
import Derived.Test.YtfdgacpmdlmjnabChecked
import Derived.WalkKit
import Derived.Test.YtfdgacpmdlmjnabParLost
import Derived.Test.YtfdgacpmdlmjnabByb
import Derived.Test.YtfdgacpmdlmjnabMk
namespace Go.Proofs.Ytfdgacpmdlmjnab
open Go.RowKit Go.Deep E
/-- the columns, those that are lost as 0s -/
def lostZ (nl : Nat) (fl : Nat → Int) (F : Nat → Nat → E) (k x : Nat) : E := if hasB nl fl k then ze else F k x
theorem lostZ_yes {nl : Nat} {fl : Nat → Int} {F : Nat → Nat → E} {k : Nat} (h : hasB nl fl k = true) (x : Nat) : lostZ nl fl F k x = ze := if_pos h
theorem lostZ_no {nl : Nat} {fl : Nat → Int} {F : Nat → Nat → E} {k : Nat} (h : hasB nl fl k = false) (x : Nat) : lostZ nl fl F k x = F k x := if_neg (by rw [h]; simp)
/-- those ahead of n of which ok holds, ascending -/
def PL (n : Nat) (ok : Nat → Bool) : List Nat := (List.range n).filter ok
theorem PL_yes {n : Nat} {ok : Nat → Bool} (h : ok n = true) : PL (n + 1) ok = PL n ok ++ [n] := by
  unfold PL
  rw [List.range_succ, List.filter_append]
  simp [h]
theorem PL_no {n : Nat} {ok : Nat → Bool} (h : ok n = false) : PL (n + 1) ok = PL n ok := by
  unfold PL
  rw [List.range_succ, List.filter_append]
  simp [h]
theorem PL_len (n : Nat) (ok : Nat → Bool) : (PL n ok).length ≤ n := by
  unfold PL
  exact Nat.le_trans (List.length_filter_le _ _) (by simp)
theorem PL_mem {n : Nat} {ok : Nat → Bool} {k : Nat} : k ∈ PL n ok ↔ k < n ∧ ok k = true := by
  unfold PL
  rw [List.mem_filter, List.mem_range]
def inV (x : Nat) : Value := .int .i64 (x : Int)
/-- a list of places that was made by append -/
theorem own_places {w : World} {base : Nat} {t : TypeId} {v : Value} {l : List Nat} (h : w.ownsRow base t 1 v l.length (l.map inV)) : ∃ a c, v = .slice a l.length c ∧ Ints w a l.length fun i => ((l.getD i 0 : Nat) : Int) := by
  obtain ⟨a, c, hv, hc⟩ := own_slice h
  refine ⟨a, c, hv, fun i hi => ?_⟩
  obtain ⟨b, o, ha, hb⟩ := hc i hi
  refine ⟨b, o, ha, ?_⟩
  have e : l.getD i 0 = l[i] := by rw [List.getD_eq_getElem?_getD, List.getElem?_eq_getElem hi]; rfl
  rw [hb, List.getElem?_map, List.getElem?_eq_getElem hi]
  dsimp only
  rw [e]
  rfl
end Go.Proofs.Ytfdgacpmdlmjnab
