/-
  par.May at every list of columns: a plain answer; the world only grows.
-/
import Derived.Test.YtfdgacpmdlmjnabChecked
import Derived.WalkKit
import Derived.Test.YtfdgacpmdlmjnabByb
namespace Go.Proofs.Ytfdgacpmdlmjnab
open Go.RowKit E
def fromTo (lo hi n : Int) : Bool := decide (lo ≤ n) && decide (n ≤ hi)
theorem fromTo_true {lo hi n : Int} (h : lo ≤ n ∧ n ≤ hi) : fromTo lo hi n = true := by unfold fromTo; simp; omega
theorem fromTo_false {lo hi n : Int} (h : ¬ (lo ≤ n ∧ n ≤ hi)) : fromTo lo hi n = false := by unfold fromTo; simp; omega
theorem fromTo_bd {lo hi n : Int} (h : fromTo lo hi n = true) : lo ≤ n ∧ n ≤ hi := by unfold fromTo at h; simp at h; omega
theorem fromTo_not {lo hi n : Int} (h : fromTo lo hi n = false) : ¬ (lo ≤ n ∧ n ≤ hi) := by unfold fromTo at h; simp at h; omega
/-- a column as long as the first one, and not too long -/
def colB (L : Nat → Nat) (r : Nat) : Bool := decide (L r = L 0) && decide (L r ≤ 4096)
def alikeB (n : Nat) (L : Nat → Nat) : Bool := (List.range n).all (colB L)
theorem alikeB_true {n : Nat} {L : Nat → Nat} (h : ∀ r, r < n → colB L r = true) : alikeB n L = true := by
  unfold alikeB
  rw [List.all_eq_true]
  exact fun x hx => h x (List.mem_range.1 hx)
theorem alikeB_of {n : Nat} {L : Nat → Nat} (h : alikeB n L = true) {r : Nat} (hr : r < n) : L r = L 0 ∧ L r ≤ 4096 := by
  unfold alikeB at h
  rw [List.all_eq_true] at h
  have := h r (List.mem_range.2 hr)
  unfold colB at this
  simpa using this
theorem alikeB_false {n : Nat} {L : Nat → Nat} {r : Nat} (hr : r < n) (h : colB L r = false) : alikeB n L = false := by
  cases e : alikeB n L
  · rfl
  · have := alikeB_of e hr
    unfold colB at h
    simp at h
    omega
theorem ret_boolB {a b : Bool} (h : a = b) : Ending.returned (.bool a) = .returned (.bool b) := by rw [h]
def pmayB (n : Nat) (L : Nat → Nat) : Bool := fromTo 1 12 n && alikeB n L
end Go.Proofs.Ytfdgacpmdlmjnab
