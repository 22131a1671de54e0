/-
  span.Both: the numbers that are in both sets: not of the form, or the one list of the set; in new memory.
-/
import Derived.Test.YtfpbiimjcdbaoaaChecked
import Derived.WalkKit
import Derived.BigQuiet
import Derived.Test.YtfpbiimjcdbaoaaSpanSift
namespace Go.Proofs.Ytfpbiimjcdbaoaa
open Go.RowKit Go.Deep
def wBoth (x : Int) : Bool := x == 2
def wAny (x : Int) : Bool := decide (1 ≤ x)
/-- two lists, by their number -/
def two {α : Type} (x y : α) (j : Nat) : α := if j = 0 then x else y
theorem two_all {α : Type} {x y : α} {P : α → Prop} (hx : P x) (hy : P y) : ∀ j, j < 2 → P (two x y j) := fun j _ => by
  unfold two
  split
  · exact hx
  · exact hy
theorem two_cnt (L M : List (Int × Int)) (hL : mayB L = true) (hM : mayB M = true) (k : Int) : cnt k (edN (two L M) 2) = (if memB k L then 1 else 0) + (if memB k M then 1 else 0) := by
  have e : edN (two L M) 2 = ([] ++ ed L) ++ ed M := rfl
  rw [e, List.nil_append, cnt_append, ed_cnt L ((mayB_iff L).1 hL).2.1, ed_cnt M ((mayB_iff M).1 hM).2.1]
theorem SetRes.congr {ok ok' : Bool} {P Q : Int → Prop} {v : Value} {er : Int} {w : World} (h : SetRes ok P v er w) (e : ok = ok') (hP : ok = true → ∀ k, P k ↔ Q k) : SetRes ok' Q v er w := by
  subst e
  rcases h with h | ⟨h1, L, h2, h3, h4⟩
  · exact Or.inl h
  · exact Or.inr ⟨h1, L, h2, fun k => (h3 k).trans (hP h1 k), h4⟩
theorem two_both (L M : List (Int × Int)) (h : allB (two L M) 2 = true) (k : Int) : wBoth (cnt k (edN (two L M) 2)) = true ↔ memL k L ∧ memL k M := by
  have h1 := allB_true _ h 0 (by omega)
  have h2 := allB_true _ h 1 (by omega)
  rw [two_cnt L M h1 h2, ← memB_iff, ← memB_iff]
  unfold wBoth
  cases memB k L <;> cases memB k M <;> decide
theorem two_any (L M : List (Int × Int)) (h : allB (two L M) 2 = true) (k : Int) : wAny (cnt k (edN (two L M) 2)) = true ↔ memL k L ∨ memL k M := by
  have h1 := allB_true _ h 0 (by omega)
  have h2 := allB_true _ h 1 (by omega)
  rw [two_cnt L M h1 h2, ← memB_iff, ← memB_iff]
  unfold wAny
  cases memB k L <;> cases memB k M <;> decide
def OpRes (w : World) (ok : Bool) (P : Int → Prop) (e : Ending) (w' : World) : Prop := SiftRes w ok P e w'
end Go.Proofs.Ytfpbiimjcdbaoaa
