/-
  What a deed comes to, told by what was asked; deeds behind deeds; what all gave back is free.
-/
import Derived.Test.YtfpbiimjcdbaoaaPlayMath4
namespace Go.Proofs.Ytfpbiimjcdbaoaa
theorem doS_one (n : Nat) (S : Nat → Int) (f c : Int) : doS n S (1, f, c) = takeR n S c := rfl
theorem doS_two (n : Nat) (S : Nat → Int) (f c : Int) : doS n S (2, f, c) = giveR n S f c := rfl
theorem doS_three (n : Nat) (S : Nat → Int) (f c : Int) : doS n S (3, f, c) = commitR n S := rfl
/-- a take that came to be -/
theorem take_ok (n : Nat) (S : Nat → Int) (f c : Int) (h : (doS n S (1, f, c)).code = 0) :
    1 ≤ c ∧ 0 ≤ (doS n S (1, f, c)).place ∧ (doS n S (1, f, c)).place + c ≤ (n : Int) ∧ (∀ i : Nat, (doS n S (1, f, c)).place ≤ (i : Int) → (i : Int) < (doS n S (1, f, c)).place + c → S i = 0) ∧
    (doS n S (1, f, c)).st = putS S (doS n S (1, f, c)).place.toNat ((doS n S (1, f, c)).place + c).toNat 1 := by
  rw [doS_one] at h ⊢
  unfold takeR at h ⊢
  split at h
  · rename_i hc
    rw [if_pos hc]
    split at h
    · rename_i x hx
      obtain ⟨h1, h2, h3⟩ := fst_runs hc.1 hx
      refine ⟨hc.1, h1, h2, fun i h4 h5 => ?_, rfl⟩
      have := h3 i h4 h5
      unfold isS at this
      simpa using this
    · exact absurd (show (8 : Int) = 0 from h) (by decide)
  · exact absurd (show (2 : Int) = 0 from h) (by decide)
theorem give_ok (n : Nat) (S : Nat → Int) (f c : Int) (h : (doS n S (2, f, c)).code = 0) :
    0 ≤ f ∧ 1 ≤ c ∧ f + c ≤ (n : Int) ∧ (∀ i : Nat, f ≤ (i : Int) → (i : Int) < f + c → S i = 1) ∧ (doS n S (2, f, c)).st = putS S f.toNat (f + c).toNat 2 := by
  rw [doS_two] at h ⊢
  unfold giveR at h ⊢
  split at h
  · rename_i hc
    rw [if_pos hc]
    split at h
    · rename_i ha
      rw [if_pos ha]
      have h2 := (allS_iff _ _ _ _).1 ha
      exact ⟨hc.1, hc.2.1, by omega, fun i h4 h5 => h2 i (by omega) (by omega), rfl⟩
    · exact absurd (show (6 : Int) = 0 from h) (by decide)
  · exact absurd (show (2 : Int) = 0 from h) (by decide)
/-- a deed that did not come to be leaves all as it was -/
theorem do_not (n : Nat) (S : Nat → Int) (d : Int × Int × Int) (h : (doS n S d).code ≠ 0) : (doS n S d).st = S := by
  unfold doS at h ⊢
  split
  · rename_i h1
    rw [if_pos h1] at h
    unfold takeR at h ⊢
    split
    · rename_i h2
      rw [if_pos h2] at h
      split
      · rename_i x hx
        rw [hx] at h
        exact absurd rfl h
      · rfl
    · rfl
  · rename_i h1
    rw [if_neg h1] at h
    split
    · rename_i h2
      rw [if_pos h2] at h
      unfold giveR at h ⊢
      split
      · rename_i h3
        rw [if_pos h3] at h
        split
        · rename_i h4
          rw [if_pos h4] at h
          exact absurd rfl h
        · rfl
      · rfl
    · rename_i h2
      rw [if_neg h2] at h
      split
      · rename_i h3
        rw [if_pos h3] at h
        exact absurd rfl h
      · rfl
/-- the codes that deeds of the three kinds end with -/
theorem take_codes (n : Nat) (S : Nat → Int) (f c : Int) (h : (doS n S (1, f, c)).code ≠ 0) : (doS n S (1, f, c)).place = 0 := by
  rw [doS_one] at h ⊢
  unfold takeR at h ⊢
  split
  · rename_i h2
    rw [if_pos h2] at h
    split
    · rename_i x hx
      rw [hx] at h
      exact absurd rfl h
    · rfl
  · rfl
theorem playE_append (n : Nat) (S : Nat → Int) (D E : List (Int × Int × Int)) : playE n S (D ++ E) = playE n (playE n S D) E := by
  induction D generalizing S with
  | nil => rfl
  | cons d l ih => exact ih _
theorem playE_take (n : Nat) (S : Nat → Int) (D : List (Int × Int × Int)) (i : Nat) (h : i < D.length) : playE n S (D.take (i + 1)) = (doS n (playE n S (D.take i)) D[i]).st := by
  rw [List.take_succ_eq_append_getElem h, playE_snoc]
/-- what is told of the deed at i -/
theorem playL_at (n : Nat) (S : Nat → Int) (D : List (Int × Int × Int)) (i : Nat) (h : i < D.length) :
    (playL n S D).1[i]'(by rw [playL_len]; exact h) = ((doS n (playE n S (D.take i)) D[i]).code, (doS n (playE n S (D.take i)) D[i]).place, cntS (doS n (playE n S (D.take i)) D[i]).st 0 n) := by
  induction D generalizing S i with
  | nil => exact absurd h (by simp)
  | cons d l ih =>
    cases i with
    | zero => rfl
    | succ i =>
      have h2 : i < l.length := by simpa using h
      exact ih (doS n S d).st i h2
/-- what is not free, told as rests: how many commits it takes, and one more -/
def sinceV (s : Int) : Int := if s = 0 then 0 else if s = 1 then -1 else if s = 2 then 2 else 1
theorem sinceV_com (n : Nat) {S : Nat → Int} (h : In4 n S) {i : Nat} (hi : i < n) : sinceV (comS S i) = if 0 < sinceV (S i) then sinceV (S i) - 1 else sinceV (S i) := by
  have h4 := h i hi
  unfold sinceV comS
  have : S i = 0 ∨ S i = 1 ∨ S i = 2 ∨ S i = 3 := by omega
  rcases this with e | e | e | e <;> simp [e]
theorem sinceV_zero (s : Int) : sinceV s = 0 ↔ s = 0 := by
  unfold sinceV
  split
  · rename_i h; exact ⟨fun _ => h, fun _ => rfl⟩
  · rename_i h
    constructor
    · intro h2
      split at h2
      · exact absurd h2 (by decide)
      · split at h2
        · exact absurd h2 (by decide)
        · exact absurd h2 (by decide)
    · intro h2; exact absurd h2 h
/-- each unit that is taken, given back -/
def givL (S : Nat → Int) : Nat → List (Int × Int × Int)
  | 0 => []
  | m + 1 => givL S m ++ (if S m = 1 then [(2, (m : Int), 1)] else [])
theorem givL_len (S : Nat → Int) (m : Nat) : (givL S m).length ≤ m := by
  induction m with
  | zero => exact Nat.le_refl _
  | succ m ih =>
    simp only [givL, List.length_append]
    split
    · simp; omega
    · simp; omega
theorem givL_end (n : Nat) (S : Nat → Int) (m : Nat) (hm : m ≤ n) : playE n S (givL S m) = fun i => if i < m ∧ S i = 1 then 2 else S i := by
  induction m with
  | zero => funext i; simp [givL, playE]
  | succ m ih =>
    have ih := ih (by omega)
    unfold givL
    rw [playE_append, ih]
    by_cases h1 : S m = 1
    · rw [if_pos h1]
      have hg : (giveR n (fun i => if i < m ∧ S i = 1 then 2 else S i) m 1).st = putS (fun i => if i < m ∧ S i = 1 then 2 else S i) (m : Int).toNat ((m : Int) + 1).toNat 2 := by
        unfold giveR
        rw [if_pos (by omega), if_pos]
        refine (allS_iff _ _ _ _).2 fun i h2 h3 => ?_
        obtain rfl : i = m := by omega
        simp [h1]
      show (giveR n (fun i => if i < m ∧ S i = 1 then 2 else S i) m 1).st = _
      rw [hg]
      funext i
      unfold putS
      by_cases h2 : i = m
      · subst h2
        rw [if_pos (by omega), if_pos ⟨by omega, h1⟩]
      · rw [if_neg (by omega)]
        by_cases h3 : i < m
        · simp [h3, show i < m + 1 by omega]
        · simp [h3, show ¬ i < m + 1 by omega]
    · rw [if_neg h1]
      funext i
      show (if i < m ∧ S i = 1 then (2 : Int) else S i) = _
      by_cases h2 : i = m
      · subst h2
        simp [h1]
      · by_cases h3 : i < m
        · simp [h3, show i < m + 1 by omega]
        · simp [h3, show ¬ i < m + 1 by omega]
/-- what all gave back is free, two commits on -/
theorem all_back (n : Nat) (S : Nat → Int) (h4 : In4 n S) (h0 : ∀ i, n ≤ i → S i = 0) : playE n S (givL S n ++ [(3, 0, 0), (3, 0, 0)]) = fun _ => 0 := by
  rw [playE_append, givL_end n S n (Nat.le_refl _)]
  show comS (comS _) = _
  funext i
  rcases Nat.lt_or_ge i n with c | c
  · have := h4 i c
    have : S i = 0 ∨ S i = 1 ∨ S i = 2 ∨ S i = 3 := by omega
    unfold comS
    rcases this with e | e | e | e <;> simp [e, c]
  · unfold comS
    simp [h0 i c]
theorem cntS_free (n : Nat) : cntS (fun _ => 0) 0 n = n := by
  induction n with
  | zero => rfl
  | succ n ih => simp only [cntS, ih]; simp [oneB]
theorem runs_none (p : Nat → Bool) (h : ∀ i, p i = false) (n : Nat) : runs p n = [] := by
  induction n with
  | zero => rfl
  | succ n ih => simp [runs, h n, ih]
/-- which units are taken -/
def tkn (S : Nat → Int) : Nat → Bool := fun i => S i == 1
theorem tkn_put (S : Nat → Int) (x y : Nat) (v : Int) : tkn (putS S x y v) = fun i => if x ≤ i ∧ i < y then v == 1 else tkn S i := by
  funext i
  unfold tkn putS
  split <;> rfl
theorem tkn_com (S : Nat → Int) : tkn (comS S) = tkn S := by
  funext i
  unfold tkn comS
  by_cases h3 : S i = 3
  · simp [h3]
  · by_cases h2 : S i = 2
    · simp [h2]
    · simp [h3, h2]
theorem sinceV_put (S : Nat → Int) (x y i : Nat) (v : Int) : sinceV (putS S x y v i) = if x ≤ i ∧ i < y then sinceV v else sinceV (S i) := by
  unfold putS
  split <;> rfl
/-- as many are free as since tells -/
theorem cntS_since (S : Nat → Int) (n : Nat) : cntS (fun i => sinceV (S i)) 0 n = cntS S 0 n := by
  induction n with
  | zero => rfl
  | succ n ih =>
    have e : (sinceV (S n) == 0) = (S n == 0) := by
      by_cases h : S n = 0
      · rw [(sinceV_zero _).2 h, h]
      · have h2 : sinceV (S n) ≠ 0 := fun h3 => h ((sinceV_zero _).1 h3)
        rw [beq_eq_false_iff_ne.2 h, beq_eq_false_iff_ne.2 h2]
    simp only [cntS, ih, e]
/-- the deeds that wishes make, of n units -/
def DeedOk (n : Nat) (d : Int × Int × Int) : Prop :=
  (d.1 = 1 ∧ d.2.1 = 0 ∧ 1 ≤ d.2.2 ∧ d.2.2 ≤ 12) ∨ d = (3, 0, 0) ∨ (d.1 = 2 ∧ 0 ≤ d.2.1 ∧ 1 ≤ d.2.2 ∧ d.2.1 + d.2.2 ≤ (n : Int))
theorem DeedOk.bd {n : Nat} (hn : n ≤ 100) {d : Int × Int × Int} (h : DeedOk n d) : (d.1 = 1 ∨ d.1 = 2 ∨ d.1 = 3) ∧ 0 ≤ d.2.1 ∧ d.2.1 ≤ 100 ∧ 0 ≤ d.2.2 ∧ d.2.2 ≤ 100 := by
  rcases h with ⟨h1, h2, h3, h4⟩ | rfl | ⟨h1, h2, h3, h4⟩
  · exact ⟨Or.inl h1, by omega, by omega, by omega, by omega⟩
  · exact ⟨Or.inr (Or.inr rfl), by decide, by decide, by decide, by decide⟩
  · exact ⟨Or.inr (Or.inl h1), by omega, by omega, by omega, by omega⟩
/-- a taken unit's code, place and what is left, of the last deed of all -/
theorem playL_last (n : Nat) (S : Nat → Int) (D : List (Int × Int × Int)) (d : Int × Int × Int) :
    (playL n S (D ++ [d])).1[D.length]? = some ((doS n (playE n S D) d).code, (doS n (playE n S D) d).place, cntS (doS n (playE n S D) d).st 0 n) := by
  rw [playL_snoc]
  show ((playL n S D).1 ++ _)[D.length]? = _
  rw [List.getElem?_append_right (by rw [playL_len]; exact Nat.le_refl _), playL_len, Nat.sub_self]
  rfl
/-- what a take of k behind all comes to -/
theorem take_told (n : Nat) (S : Nat → Int) (k : Int) (h1 : 1 ≤ k) (h2 : k ≤ (n : Int)) :
    ((doS n S (1, 0, k)).code, (doS n S (1, 0, k)).place) = match fstL k (runs (isS S 0) n) with | some x => (0, x) | none => (8, 0) := by
  rw [doS_one]
  unfold takeR
  rw [if_pos ⟨h1, h2⟩]
  cases fstL k (runs (isS S 0) n) with
  | none => rfl
  | some x => rfl
theorem play_one : playL 1 (fun _ => 0) [(1, 0, 1)] = ([(0, 0, 0)], [(false, 0, 1)]) := rfl
end Go.Proofs.Ytfpbiimjcdbaoaa
