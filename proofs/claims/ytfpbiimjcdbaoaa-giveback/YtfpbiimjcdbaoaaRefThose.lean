/-
  quicksetref.those: the ranges between places of which the first is so; in new memory.
-/
import Derived.Test.YtfpbiimjcdbaoaaChecked
import Derived.WalkKit
import Derived.BigQuiet
import Derived.Test.YtfpbiimjcdbaoaaEndsMath
import Derived.Test.YtfpbiimjcdbaoaaRefEnds
import Derived.Test.YtfpbiimjcdbaoaaSpanSift
import Derived.Test.YtfpbiimjcdbaoaaQuiets
namespace Go.Proofs.Ytfpbiimjcdbaoaa
open Go.RowKit Go.Deep
def ThoRes (P : List Int) (sf : Int → Bool) (v : Value) (er : Int) (w' : World) : Prop :=
  ∃ L, Tho P sf (P.length - 1) L ∧ ((200 < L.length ∧ v = .slice none 0 0 ∧ er = 8) ∨ (L.length ≤ 200 ∧ er = 0 ∧ ∃ a c, v = .slice a L.length c ∧ Rngs w' a L ∧ RTag w' a))
/-- the last of pairs, in memory -/
theorem own_last {w : World} {base : Nat} {v : Value} {m : Nat} {M : List (Int × Int)} {a x : Int} (hm : M.length = m) (h : w.ownsRow base 53 2 v (m + 1) (fl (M ++ [(a, x)]))) : ∃ g cap, v = .slice (some ⟨g, 0, none⟩) (m + 1) cap ∧ base ≤ g ∧ w.cell? ⟨g, m * 2 + 1, none⟩ = some (.int .i64 x) ∧ w.frozen? ⟨g, m * 2 + 1, none⟩ = false ∧
    ∀ y, (w.setCell ⟨g, m * 2 + 1, none⟩ (.int .i64 y)).ownsRow base 53 2 v (m + 1) (fl (M ++ [(a, y)])) := by
  obtain ⟨g, cap, rfl, hg, _⟩ := h.form (by omega)
  refine ⟨g, cap, rfl, hg, ?_, h.frozenAt _, fun y => ?_⟩
  · rw [h.cellAt _ (by omega)]
    exact (fl_get (i := m) (x := a) (by rw [List.getElem?_append_right (by omega), hm]; simp)).2
  · have := (h.stored (m * 2 + 1) (.int .i64 y)).1
    have e : (fl (M ++ [(a, x)])).set (m * 2 + 1) (.int .i64 y) = fl (M ++ [(a, y)]) := by
      rw [fl_append, fl_append, List.set_append_right _ _ (by rw [fl_length, hm]; omega), fl_length, hm, show m * 2 + 1 - m * 2 = 1 by omega]
      rfl
    rw [e] at this
    exact this
end Go.Proofs.Ytfpbiimjcdbaoaa
