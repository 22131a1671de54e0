/-
  quicksetref.RangeMay, SpanMay: may ranges be the list of a set, as the document says; the memory grows alone.
-/
import Derived.Test.YtfpbiimjcdbaoaaChecked
import Derived.WalkKit
import Derived.BigQuiet
import Derived.Test.YtfpbiimjcdbaoaaSpanMay
import Derived.Test.YtfpbiimjcdbaoaaQuiets
namespace Go.Proofs.Ytfpbiimjcdbaoaa
open Go.RowKit
def rmB (x y : Int) : Bool := decide (0 ≤ x) && decide (x < y) && decide (y ≤ 1048576)
/-- what one range and the one behind it owe -/
def linkB (x y : Int) (l : List (Int × Int)) : Bool := rmB x y && (match l with | [] => true | r :: _ => decide (y < r.1))
/-- the same, range by range -/
def okR : List (Int × Int) → Bool
  | [] => true
  | r :: l => linkB r.1 r.2 l && okR l
theorem okB_okR (L : List (Int × Int)) (m : Int) (hm : 0 ≤ m) : okB m L = (okR L && (match L with | [] => true | r :: _ => decide (m ≤ r.1))) := by
  induction L generalizing m with
  | nil => rfl
  | cons r l ih =>
    obtain ⟨x, y⟩ := r
    show (decide (m ≤ x) && decide (x < y) && decide (y ≤ 1048576) && okB (y + 1) l) = (linkB x y l && okR l && decide (m ≤ x))
    unfold linkB rmB
    by_cases h1 : m ≤ x
    · by_cases h2 : x < y
      · rw [ih (y + 1) (by omega), decide_eq_true h1, decide_eq_true h2, decide_eq_true (show 0 ≤ x by omega)]
        cases l with
        | nil => simp
        | cons s l' =>
          have e : decide (y + 1 ≤ s.1) = decide (y < s.1) := by by_cases h : y < s.1 <;> simp [h] <;> omega
          simp only [e]
          cases okR (s :: l') <;> cases decide (y < s.1) <;> simp
      · simp [h2]
    · simp [h1]
theorem mayB_okR (L : List (Int × Int)) : mayB L = (decide (L.length ≤ 200) && okR L) := by
  unfold mayB
  rw [okB_okR L 0 (by omega)]
  cases L with
  | nil => simp [okR]
  | cons r l =>
    have e : (okR (r :: l) && decide (0 ≤ r.1)) = okR (r :: l) := by
      show ((linkB r.1 r.2 l && okR l) && decide (0 ≤ r.1)) = (linkB r.1 r.2 l && okR l)
      unfold linkB rmB
      cases decide (0 ≤ r.1) <;> simp
    simp only [e]
end Go.Proofs.Ytfpbiimjcdbaoaa
