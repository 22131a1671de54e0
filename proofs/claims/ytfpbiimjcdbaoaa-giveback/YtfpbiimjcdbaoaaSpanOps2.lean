/-
  span.Add, others, Cut: the set with all of a range, and without it: not of the form, or the one list of the set; in new memory.
-/
import Derived.Test.YtfpbiimjcdbaoaaChecked
import Derived.WalkKit
import Derived.BigQuiet
import Derived.Test.YtfpbiimjcdbaoaaSpanOps
namespace Go.Proofs.Ytfpbiimjcdbaoaa
open Go.RowKit Go.Deep
theorem rngs_one {w : World} {g : Nat} {x y : Int} (h0 : w.cell? ⟨g, 0, none⟩ = some (.int .i64 x)) (h1 : w.cell? ⟨g, 1, none⟩ = some (.int .i64 y)) : Rngs w (some ⟨g, 0, none⟩) [(x, y)] := by
  intro i a b hi
  have hl := lt_of_get hi
  obtain rfl : i = 0 := by simp at hl; omega
  simp at hi
  obtain ⟨rfl, rfl⟩ := hi
  exact ⟨g, 0, rfl, by simpa using h0, by simpa using h1⟩
theorem bdd_one {x y : Int} (h : (-9223372036854775808 ≤ x ∧ x ≤ 9223372036854775807) ∧ -9223372036854775808 ≤ y ∧ y ≤ 9223372036854775807) : Bdd [(x, y)] := by
  intro r hr
  rw [List.mem_singleton] at hr
  subst hr
  exact h
end Go.Proofs.Ytfpbiimjcdbaoaa
