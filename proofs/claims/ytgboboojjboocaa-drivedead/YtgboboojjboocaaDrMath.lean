/-
  What jobs of a drive come to, one behind the other: the drive behind them, what its sectors have.
-/
import Derived.Test.YtgboboojjboocaaDrPlay
namespace Go.Proofs.Ytgboboojjboocaa
open Go.RowKit Go.Deep E
/-- the drive behind jobs -/
def dend (n : Nat) : DState → List Jb → DState
  | s, [] => s
  | s, J :: l => dend n (jobR n s J).2 l
theorem dend_append (n : Nat) : ∀ (L M : List Jb) (s : DState), dend n s (L ++ M) = dend n (dend n s L) M
  | [], _, _ => rfl
  | _ :: l, M, _ => dend_append n l M _
theorem dplay_append (n : Nat) : ∀ (L M : List Jb) (s : DState), dplay n s (L ++ M) = dplay n s L ++ dplay n (dend n s L) M
  | [], _, _ => rfl
  | J :: l, M, s => by
    show (jobR n s J).1 :: dplay n (jobR n s J).2 (l ++ M) = (jobR n s J).1 :: (dplay n (jobR n s J).2 l ++ _)
    rw [dplay_append n l M]
    rfl
theorem dplay_len (n : Nat) : ∀ (L : List Jb) (s : DState), (dplay n s L).length = L.length
  | [], _ => rfl
  | J :: l, s => by
    show (dplay n (jobR n s J).2 l).length + 1 = l.length + 1
    rw [dplay_len n l]
/-- what was put last of what is kept -/
def lastK (κ : Nat → Bool) : Nat → List (Nat × (Nat → E)) → Nat → Option (Nat → E)
  | _, [], _ => none
  | k, x :: l, i => match lastK κ (k + 1) l i with | some c => some c | none => if κ k = true ∧ x.1 = i then some x.2 else none
theorem lastK_all {κ : Nat → Bool} (i : Nat) : ∀ (W : List (Nat × (Nat → E))) (k : Nat), (∀ j, k ≤ j → j < k + W.length → κ j = true) → lastK κ k W i = lastW W i
  | [], _, _ => rfl
  | x :: l, k, h => by
    show (match lastK κ (k + 1) l i with | some c => some c | none => if κ k = true ∧ x.1 = i then some x.2 else none) = (match lastW l i with | some c => some c | none => if x.1 = i then some x.2 else none)
    rw [lastK_all i l (k + 1) fun j h1 h2 => h j (by omega) (by simp only [List.length_cons]; omega), h k (Nat.le_refl _) (by simp)]
    simp only [true_and]
theorem lastK_none {κ : Nat → Bool} (i : Nat) : ∀ (W : List (Nat × (Nat → E))) (k : Nat), (∀ j, k ≤ j → j < k + W.length → κ j = false) → lastK κ k W i = none
  | [], _, _ => rfl
  | x :: l, k, h => by
    show (match lastK κ (k + 1) l i with | some c => some c | none => if κ k = true ∧ x.1 = i then some x.2 else none) = none
    rw [lastK_none i l (k + 1) fun j h1 h2 => h j (by omega) (by simp only [List.length_cons]; omega), h k (Nat.le_refl _) (by simp)]
    simp
/-- what was kept was put -/
theorem lastK_in {κ : Nat → Bool} {i : Nat} {c : Nat → E} : ∀ {W : List (Nat × (Nat → E))} {k : Nat}, lastK κ k W i = some c → (i, c) ∈ W
  | [], _, h => by cases h
  | x :: l, k, h => by
    have h' : (match lastK κ (k + 1) l i with | some c => some c | none => if κ k = true ∧ x.1 = i then some x.2 else none) = some c := h
    cases hl : lastK κ (k + 1) l i with
    | some d =>
      rw [hl] at h'
      cases h'
      exact List.mem_cons.2 (Or.inr (lastK_in hl))
    | none =>
      rw [hl] at h'
      simp only at h'
      split at h'
      · rename_i hk
        cases h'
        rw [← hk.2]
        exact List.mem_cons.2 (Or.inl rfl)
      · cases h'
theorem setK_len (κ : Nat → Bool) : ∀ (W : List (Nat × (Nat → E))) (k : Nat) (PL : List ((Nat → E) × Bool)), (setK κ k W PL).length = PL.length
  | [], _, _ => rfl
  | x :: l, k, PL => by
    show (setK κ (k + 1) l _).length = _
    rw [setK_len κ l]
    split
    · rw [List.length_set]
    · rfl
theorem setK_get (κ : Nat → Bool) (i : Nat) : ∀ (W : List (Nat × (Nat → E))) (k : Nat) (PL : List ((Nat → E) × Bool)), i < PL.length → (setK κ k W PL)[i]? = match lastK κ k W i with | some c => some (c, false) | none => PL[i]?
  | [], _, _, _ => rfl
  | x :: l, k, PL, hi => by
    show (setK κ (k + 1) l (if κ k then PL.set x.1 (x.2, false) else PL))[i]? = match (match lastK κ (k + 1) l i with | some c => some c | none => if κ k = true ∧ x.1 = i then some x.2 else none) with | some c => some (c, false) | none => PL[i]?
    rw [setK_get κ i l (k + 1) _ (by split <;> simp [hi])]
    cases lastK κ (k + 1) l i with
    | some c => rfl
    | none =>
      simp only
      by_cases hk : κ k = true
      · rw [if_pos hk, List.getElem?_set]
        by_cases hx : x.1 = i
        · subst hx
          simp [hk, hi]
        · simp [hk, hx]
      · simp [hk]
/-- no sector is broken, and all are there -/
def Good (n : Nat) (s : DState) : Prop := s.1.length = n ∧ s.2.2 = false ∧ ∀ (i : Nat) (x : (Nat → E) × Bool), s.1[i]? = some x → x.2 = false
/-- what a sector has -/
def has (s : DState) (i : Nat) : Nat → E := match lastW s.2.1 i with | some c => c | none => (s.1.getD i (fun _ => ze, false)).1
/-- what a sector had at the last flush -/
def plat (s : DState) (i : Nat) : Nat → E := (s.1.getD i (fun _ => ze, false)).1
theorem getV_good {n : Nat} {s : DState} (h : Good n s) {i : Nat} (hi : i < n) : getV s.1 s.2.1 i = (0, some (has s i)) := by
  unfold getV has
  cases lastW s.2.1 i with
  | some c => rfl
  | none =>
    have hl : i < s.1.length := by rw [h.1]; exact hi
    have e := List.getElem?_eq_getElem hl
    have hb := h.2.2 i _ e
    simp only [e, hb, List.getD_eq_getElem?_getD, Option.getD_some]
    rfl
theorem new_good (n : Nat) : Good n (newS n) := ⟨List.length_replicate, rfl, fun i x hx => by
  rw [show (newS n).1 = List.replicate n (fun _ => ze, false) from rfl] at hx
  have := lt_of_get hx
  rw [List.length_replicate] at this
  rw [List.getElem?_replicate, if_pos this] at hx
  cases hx
  rfl⟩
theorem new_has (n i : Nat) : has (newS n) i = fun _ => ze := by
  show ((List.replicate n ((fun _ => ze : Nat → E), false)).getD i (fun _ => ze, false)).1 = _
  rw [List.getD_eq_getElem?_getD, List.getElem?_replicate]
  split <;> rfl
/-- flush and crash -/
theorem set_good {n : Nat} {s : DState} (h : Good n s) (κ : Nat → Bool) : Good n (setK κ 0 s.2.1 s.1, [], s.2.2) := by
  refine ⟨by rw [show (setK κ 0 s.2.1 s.1, ([] : List (Nat × (Nat → E))), s.2.2).1 = setK κ 0 s.2.1 s.1 from rfl, setK_len]; exact h.1, h.2.1, fun i x hx => ?_⟩
  have hl : i < s.1.length := by
    have := lt_of_get hx
    rwa [show (setK κ 0 s.2.1 s.1, ([] : List (Nat × (Nat → E))), s.2.2).1 = setK κ 0 s.2.1 s.1 from rfl, setK_len] at this
  rw [show (setK κ 0 s.2.1 s.1, ([] : List (Nat × (Nat → E))), s.2.2).1 = setK κ 0 s.2.1 s.1 from rfl, setK_get κ i s.2.1 0 s.1 hl] at hx
  cases hk : lastK κ 0 s.2.1 i with
  | some c => rw [hk] at hx; cases hx; rfl
  | none => rw [hk] at hx; exact h.2.2 i x hx
theorem set_plat {n : Nat} {s : DState} (h : Good n s) (κ : Nat → Bool) {i : Nat} (hi : i < n) : plat (setK κ 0 s.2.1 s.1, [], s.2.2) i = match lastK κ 0 s.2.1 i with | some c => c | none => plat s i := by
  unfold plat
  have hl : i < s.1.length := by rw [h.1]; exact hi
  rw [show (setK κ 0 s.2.1 s.1, ([] : List (Nat × (Nat → E))), s.2.2).1 = setK κ 0 s.2.1 s.1 from rfl, List.getD_eq_getElem?_getD, setK_get κ i s.2.1 0 s.1 hl]
  cases lastK κ 0 s.2.1 i with
  | some c => rfl
  | none => simp only [List.getD_eq_getElem?_getD]
theorem has_set (κ : Nat → Bool) (s : DState) (i : Nat) : has (setK κ 0 s.2.1 s.1, [], s.2.2) i = plat (setK κ 0 s.2.1 s.1, [], s.2.2) i := rfl
/-- flush changes nothing of what the sectors have -/
theorem flush_has {n : Nat} {s : DState} (h : Good n s) {i : Nat} (hi : i < n) : has (setK (fun _ => true) 0 s.2.1 s.1, [], s.2.2) i = has s i := by
  rw [has_set, set_plat h _ hi, lastK_all i _ _ (fun _ _ _ => rfl)]
  rfl
theorem keepB_all (k : Nat) : keepB (-1) k = true := by
  unfold keepB
  have h1 : (-1 : Int) / 2 ^ (k % 62) = -1 := by
    refine Int.ediv_eq_neg_one_of_neg_of_le (by omega) ?_
    have : (0 : Int) < 2 ^ (k % 62) := Int.pow_pos (by omega)
    omega
  rw [h1]
  rfl
theorem keepB_none (k : Nat) : keepB 0 k = false := by
  unfold keepB
  rw [Int.zero_ediv]
  rfl
end Go.Proofs.Ytgboboojjboocaa
