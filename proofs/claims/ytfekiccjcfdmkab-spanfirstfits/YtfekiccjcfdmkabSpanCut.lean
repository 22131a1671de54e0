/-
  span.Cut: the set without a range: not of the form, or the one list of the set; in new memory.
-/
import Derived.Test.YtfekiccjcfdmkabChecked
import Derived.WalkKit
import Derived.BigQuiet
import Derived.Test.YtfekiccjcfdmkabSpanOth
import Derived.Test.YtfekiccjcfdmkabSpanOps2
namespace Go.Proofs.Ytfekiccjcfdmkab
open Go.RowKit Go.Deep
theorem may_one {x y : Int} (h : mayB [(x, y)] = true) : 0 ≤ x ∧ x < y ∧ y ≤ 1048576 := by
  have := ((mayB_iff _).1 h).2.2 (x, y) (List.mem_singleton.2 rfl)
  exact this
theorem oth_mem (x y : Int) (h : 0 ≤ x ∧ x < y ∧ y ≤ 1048576) (k : Int) : memL k (othL x y) ↔ (0 ≤ k ∧ k < 1048576) ∧ ¬ (x ≤ k ∧ k < y) := by
  unfold othL othA
  by_cases h1 : 0 < x
  · rw [if_pos h1]
    by_cases h2 : y < 1048576
    · rw [if_pos h2, memL_snoc, memL_one]
      simp only
      omega
    · rw [if_neg h2, List.append_nil, memL_one]
      omega
  · rw [if_neg h1]
    by_cases h2 : y < 1048576
    · rw [if_pos h2, List.nil_append, memL_one]
      omega
    · rw [if_neg h2, List.append_nil]
      constructor
      · intro q
        exact absurd q (memL_nil k)
      · intro q
        omega
theorem oth_may (x y : Int) (h : 0 ≤ x ∧ x < y ∧ y ≤ 1048576) : mayB (othL x y) = true := by
  unfold othL othA mayB
  by_cases h1 : 0 < x
  · rw [if_pos h1]
    by_cases h2 : y < 1048576
    · rw [if_pos h2]
      simp [okB]
      omega
    · rw [if_neg h2]
      simp [okB]
      omega
  · rw [if_neg h1]
    by_cases h2 : y < 1048576
    · rw [if_pos h2]
      simp [okB]
      omega
    · rw [if_neg h2]
      simp [okB]
theorem may_bdd {L : List (Int × Int)} (h : mayB L = true) : Bdd L := fun r hr => by
  have := ((mayB_iff L).1 h).2.2 r hr
  omega
end Go.Proofs.Ytfekiccjcfdmkab
