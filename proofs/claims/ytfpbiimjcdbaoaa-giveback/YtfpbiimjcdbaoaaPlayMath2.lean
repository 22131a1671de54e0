/-
  Deeds one behind the other: what one more comes to; the log replayed tells what is free.
-/
import Derived.Test.YtfpbiimjcdbaoaaPlayMath
namespace Go.Proofs.Ytfpbiimjcdbaoaa
/-- the units behind deeds -/
def playE (n : Nat) : (Nat → Int) → List (Int × Int × Int) → (Nat → Int)
  | S, [] => S
  | S, d :: l => playE n (doS n S d).st l
theorem playE_snoc (n : Nat) (S : Nat → Int) (D : List (Int × Int × Int)) (d : Int × Int × Int) : playE n S (D ++ [d]) = (doS n (playE n S D) d).st := by
  induction D generalizing S with
  | nil => rfl
  | cons e l ih => exact ih _
theorem playL_snoc (n : Nat) (S : Nat → Int) (D : List (Int × Int × Int)) (d : Int × Int × Int) :
    playL n S (D ++ [d]) = ((playL n S D).1 ++ [((doS n (playE n S D) d).code, (doS n (playE n S D) d).place, cntS (doS n (playE n S D) d).st 0 n)], (playL n S D).2 ++ (doS n (playE n S D) d).recs) := by
  induction D generalizing S with
  | nil => simp [playL, playE]
  | cons e l ih =>
    have h := ih (doS n S e).st
    show (_ :: (playL n (doS n S e).st (l ++ [d])).1, (doS n S e).recs ++ (playL n (doS n S e).st (l ++ [d])).2) = _
    rw [h]
    simp [playL, playE]
theorem playL_len (n : Nat) (S : Nat → Int) (D : List (Int × Int × Int)) : (playL n S D).1.length = D.length := by
  induction D generalizing S with
  | nil => rfl
  | cons e l ih => simp only [playL, List.length_cons, ih]
theorem playE_in (n : Nat) {S : Nat → Int} (h : In4 n S) (D : List (Int × Int × Int)) : In4 n (playE n S D) := by
  induction D generalizing S with
  | nil => exact h
  | cons e l ih => exact ih (h.do e)
/-- what the log makes of the units: what rests is taken -/
def shut (S : Nat → Int) : Nat → Int := fun i => if S i = 0 then 0 else 1
theorem replay_append (n : Nat) (S : Nat → Int) (L M : List (Bool × Int × Int)) : replayS n S (L ++ M) = (replayS n S L).bind fun S' => replayS n S' M := by
  induction L generalizing S with
  | nil => rfl
  | cons r l ih =>
    show (stepR n S r).bind (fun S' => replayS n S' (l ++ M)) = ((stepR n S r).bind fun S' => replayS n S' l).bind _
    cases stepR n S r with
    | none => rfl
    | some S' => exact ih S'
end Go.Proofs.Ytfpbiimjcdbaoaa
