/-
  span.between: the ranges between sorted ends of which as many sets have the numbers as is wanted; in new memory.
-/
import Derived.Test.YtfpbiimjcdbaoaaChecked
import Derived.WalkKit
import Derived.BigQuiet
import Derived.Test.YtfpbiimjcdbaoaaSpanOwn
import Derived.Test.YtfpbiimjcdbaoaaSpanSweep
import Derived.Test.YtfpbiimjcdbaoaaQuiets
namespace Go.Proofs.Ytfpbiimjcdbaoaa
open Go.RowKit Go.Deep
theorem infoR : (Try.prog.info? 53).map (fun i => (i.zero, i.size, i.bytes)) = some (some (.agg #[.int .i64 0, .int .i64 0]), 2, 16) := by kernel_rfl
theorem Ext.drewN {a w : World} (h : Ext a w) (n : Nat) : Ext a (w.drewN n) := by
  exact h.trans ⟨⟨rfl, rfl, rfl, Nat.le_refl _, fun _ _ => rfl⟩⟩
theorem own_geS {w : World} {base : Nat} {e : TypeId} {size : Nat} {v : Value} {n : Nat} {xs : List Value} (h : w.ownsRow base e size v n xs) {q : Nat} (hq : v.ownBlock = some q) : base ≤ q := by
  rcases h.2 with ⟨rfl, _⟩ | ⟨g, cap, cur, rfl, hg, _⟩
  · cases hq
  · cases hq; exact hg
theorem pair_news (W : World) (g : Nat) (hg : g = W.heap.size) (a b : Int) (t : TypeId) : ∀ (j : Nat) (u : Value), (fl [(a, b)])[j]? = some u → (W.alloc (.cells #[.int .i64 a, .int .i64 b] t)).cell? ⟨g, j, none⟩ = some u := by
  subst hg
  intro j u hj
  rw [new_cell, ← Array.getElem?_toList]
  exact hj
/-- behind it -/
def BtwRes (w : World) (E : List (Int × Int)) (wf : Int → Bool) (v : Value) (w' : World) : Prop :=
  ∃ L, Nrm L ∧ (∀ k, memL k L ↔ wf (cnt k E) = true) ∧ L.length ≤ E.length ∧ w'.ownsRow w.heap.size 53 2 v L.length (fl L) ∧ Ext w w'
theorem nx_gt {E : List (Int × Int)} (ha : Asc E) {i : Nat} {x y : Int} (he : E[i]? = some (x, y)) (hn : ∀ z t, E[i + 1]? = some (z, t) → z ≠ x) : ∀ r, r ∈ E.drop (i + 1) → x < r.1 := by
  intro r hr
  by_cases hl : i + 1 < E.length
  · have h1 := ha i (i + 1) (x, y) E[i + 1] (by omega) he (List.getElem?_eq_getElem hl)
    have h2 : E[i + 1].1 ≠ x := hn _ _ (List.getElem?_eq_getElem hl)
    have h3 := ha.up (x := E[i + 1].1) (y := E[i + 1].2) (List.getElem?_eq_getElem hl) (Nat.le_refl _) hr
    simp only at h1
    omega
  · rw [List.drop_eq_nil_of_le (by omega)] at hr
    simp at hr
end Go.Proofs.Ytfpbiimjcdbaoaa
