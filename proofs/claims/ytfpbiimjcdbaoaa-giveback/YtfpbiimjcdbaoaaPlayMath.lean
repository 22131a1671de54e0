/-
  Deeds of a space: what each comes to.
-/
import Derived.Test.YtfpbiimjcdbaoaaSpaceB
import Derived.Test.YtfpbiimjcdbaoaaSpanFitM
namespace Go.Proofs.Ytfpbiimjcdbaoaa
/-- what a deed comes to: code, place, the units, records -/
structure DoR where
  code : Int
  place : Int
  st : Nat → Int
  recs : List (Bool × Int × Int)
def comS (S : Nat → Int) : Nat → Int := fun i => if S i = 3 then 0 else if S i = 2 then 3 else S i
def takeR (n : Nat) (S : Nat → Int) (c : Int) : DoR :=
  if 1 ≤ c ∧ c ≤ (n : Int) then
    match fstL c (runs (isS S 0) n) with
    | some x => ⟨0, x, putS S x.toNat (x + c).toNat 1, [(false, x, x + c)]⟩
    | none => ⟨8, 0, S, []⟩
  else ⟨2, 0, S, []⟩
def giveR (n : Nat) (S : Nat → Int) (f c : Int) : DoR :=
  if 0 ≤ f ∧ 1 ≤ c ∧ c ≤ (n : Int) - f then
    (if allS S f.toNat (f + c).toNat 1 then ⟨0, 0, putS S f.toNat (f + c).toNat 2, []⟩ else ⟨6, 0, S, []⟩)
  else ⟨2, 0, S, []⟩
def commitR (n : Nat) (S : Nat → Int) : DoR := ⟨0, 0, comS S, (runs (isS S 3) n).map fun r => (true, r.1, r.2)⟩
def doS (n : Nat) (S : Nat → Int) (d : Int × Int × Int) : DoR :=
  if d.1 = 1 then takeR n S d.2.2 else if d.1 = 2 then giveR n S d.2.1 d.2.2 else if d.1 = 3 then commitR n S else ⟨3, 0, S, []⟩
theorem fst_runs {p : Nat → Bool} {n : Nat} {c x : Int} (hc : 1 ≤ c) (h : fstL c (runs p n) = some x) : 0 ≤ x ∧ x + c ≤ (n : Int) ∧ ∀ i : Nat, x ≤ (i : Int) → (i : Int) < x + c → p i = true := by
  have hw := fst_win c _ x h
  have hm := (runs_spec p n).mem
  obtain ⟨i, h1, h2, _⟩ := (hm x).1 (hw x (Int.le_refl _) (by omega))
  obtain ⟨j, h3, h4, _⟩ := (hm (x + c - 1)).1 (hw _ (by omega) (by omega))
  refine ⟨by omega, by omega, fun k h5 h6 => ?_⟩
  obtain ⟨k', h7, _, h8⟩ := (hm k).1 (hw k h5 h6)
  obtain rfl : k = k' := by omega
  exact h8
theorem take_all {S : Nat → Int} {n : Nat} {c x : Int} (hc : 1 ≤ c) (h : fstL c (runs (isS S 0) n) = some x) : allS S x.toNat (x + c).toNat 0 = true := by
  obtain ⟨h1, h2, h3⟩ := fst_runs hc h
  refine (allS_iff _ _ _ _).2 fun i h4 h5 => ?_
  have := h3 i (by omega) (by omega)
  unfold isS at this
  simpa using this
/-- all deeds: what is told of each, and the log -/
def playL (n : Nat) : (Nat → Int) → List (Int × Int × Int) → List (Int × Int × Int) × List (Bool × Int × Int)
  | _, [] => ([], [])
  | S, d :: l => (((doS n S d).code, (doS n S d).place, cntS (doS n S d).st 0 n) :: (playL n (doS n S d).st l).1, (doS n S d).recs ++ (playL n (doS n S d).st l).2)
/-- what units can be -/
def In4 (n : Nat) (S : Nat → Int) : Prop := ∀ i, i < n → 0 ≤ S i ∧ S i ≤ 3
theorem In4.put {n : Nat} {S : Nat → Int} (h : In4 n S) (x y : Nat) {v : Int} (hv : 0 ≤ v ∧ v ≤ 3) : In4 n (putS S x y v) := fun i hi => by
  unfold putS
  split
  · exact hv
  · exact h i hi
theorem In4.com {n : Nat} {S : Nat → Int} (h : In4 n S) : In4 n (comS S) := fun i hi => by
  have := h i hi
  unfold comS
  split
  · omega
  · split
    · omega
    · omega
theorem In4.do {n : Nat} {S : Nat → Int} (h : In4 n S) (d : Int × Int × Int) : In4 n (doS n S d).st := by
  unfold doS
  split
  · unfold takeR
    split
    · split
      · exact h.put _ _ (by omega)
      · exact h
    · exact h
  · split
    · unfold giveR
      split
      · split
        · exact h.put _ _ (by omega)
        · exact h
      · exact h
    · split
      · exact h.com
      · exact h
theorem recs_few (n : Nat) (hn : n ≤ 4096) (S : Nat → Int) (d : Int × Int × Int) : (doS n S d).recs.length ≤ 4096 := by
  unfold doS
  split
  · unfold takeR
    split
    · split
      · simp
      · simp
    · simp
  · split
    · unfold giveR
      split
      · split
        · simp
        · simp
      · simp
    · split
      · have := runs_len (isS S 3) n
        simp only [commitR, List.length_map]
        omega
      · simp
end Go.Proofs.Ytfpbiimjcdbaoaa
