/-
  The first place of a set from which on so many numbers in a row are in it.
-/
import Derived.Test.YtfpbiimjcdbaoaaSpanMath
namespace Go.Proofs.Ytfpbiimjcdbaoaa
/-- from s on n numbers are in it -/
def Win (L : List (Int × Int)) (n s : Int) : Prop := ∀ j, s ≤ j → j < s + n → memL j L
theorem fst_win (n : Int) : ∀ (L : List (Int × Int)) (v : Int), fstL n L = some v → Win L n v
  | [], v, h => by simp [fstL] at h
  | r :: l, v, h => by
    unfold fstL at h
    intro j h1 h2
    by_cases c : n ≤ r.2 - r.1
    · rw [if_pos c] at h
      injection h with h
      exact (memL_cons _ _ _).2 (Or.inl ⟨by omega, by omega⟩)
    · rw [if_neg c] at h
      exact (memL_cons _ _ _).2 (Or.inr (fst_win n l v h j h1 h2))
theorem win_fst (n : Int) (hn : 1 ≤ n) : ∀ (L : List (Int × Int)) (s : Int), Nrm L → Win L n s → ∃ v, fstL n L = some v ∧ v ≤ s
  | [], s, _, h => absurd (h s (Int.le_refl _) (by omega)) (memL_nil _)
  | r :: l, s, hL, h => by
    have h0 := h s (Int.le_refl _) (by omega)
    by_cases c : s < r.2
    · have h1 := hL.low h0
      have h2 : s + n ≤ r.2 := by
        rcases Int.lt_or_le r.2 (s + n) with q | q
        · exact absurd (h r.2 (by omega) q) hL.gap
        · exact q
      exact ⟨r.1, by unfold fstL; rw [if_pos (by omega)], h1⟩
    · have hw : Win l n s := fun j h1 h2 => (hL.tail j).2 ⟨h j h1 h2, by omega⟩
      obtain ⟨v, hv, hle⟩ := win_fst n hn l s hL.2.2 hw
      by_cases d : n ≤ r.2 - r.1
      · have := hL.1
        exact ⟨r.1, by unfold fstL; rw [if_pos d], by omega⟩
      · exact ⟨v, by unfold fstL; rw [if_neg d]; exact hv, hle⟩
/-- the search, ahead of i: the last row of them are in, and no window has come yet -/
structure Fit (L : List (Int × Int)) (k : Int) (i row : Int) : Prop where
  bd : 0 ≤ row ∧ row ≤ i ∧ row < k
  run : ∀ j, i - row ≤ j → j < i → memL j L
  cut : row < i → ¬ memL (i - row - 1) L
  no : ∀ s, 0 ≤ s → s + k ≤ i → ¬ Win L k s
theorem Fit.start (L : List (Int × Int)) (k : Int) (hk : 1 ≤ k) : Fit L k 0 0 where
  bd := by omega
  run j h1 h2 := by omega
  cut h := by omega
  no s h1 h2 := by omega
section
variable {L : List (Int × Int)} {k i row : Int}
theorem Fit.out (h : Fit L k i row) (hm : ¬ memL i L) (hi : 0 ≤ i) : Fit L k (i + 1) 0 where
  bd := by have := h.bd; omega
  run j h1 h2 := by omega
  cut _ := by rwa [show i + 1 - 0 - 1 = i by omega]
  no s h1 h2 hw := by
    rcases Int.lt_or_le (s + k) (i + 1) with q | q
    · exact h.no s h1 (by omega) hw
    · have := h.bd
      exact hm (hw i (by omega) (by omega))
theorem Fit.in (h : Fit L k i row) (hm : memL i L) (hk : row + 1 < k) : Fit L k (i + 1) (row + 1) where
  bd := by have := h.bd; omega
  run j h1 h2 := by
    rcases Int.lt_or_le j i with q | q
    · exact h.run j (by omega) q
    · obtain rfl : j = i := by omega
      exact hm
  cut h1 := by
    rw [show i + 1 - (row + 1) - 1 = i - row - 1 by omega]
    exact h.cut (by omega)
  no s h1 h2 hw := by
    rcases Int.lt_or_le (s + k) (i + 1) with q | q
    · exact h.no s h1 (by omega) hw
    · have hb := h.bd
      exact h.cut (by omega) (hw (i - row - 1) (by omega) (by omega))
theorem Fit.hit (h : Fit L k i row) (hL : Nrm L) (h0 : ∀ j, memL j L → 0 ≤ j) (hm : memL i L) (hk : row + 1 = k) : fstL k L = some (i - k + 1) := by
  have hb := h.bd
  have hw : Win L k (i - k + 1) := fun j h1 h2 => by
    rcases Int.lt_or_le j i with q | q
    · exact h.run j (by omega) q
    · obtain rfl : j = i := by omega
      exact hm
  obtain ⟨v, hv, hle⟩ := win_fst k (by omega) L _ hL hw
  have hwv := fst_win k L v hv
  have hv0 := h0 v (hwv v (Int.le_refl _) (by omega))
  rcases Int.lt_or_le v (i - k + 1) with q | q
  · exact absurd hwv (h.no v hv0 (by omega))
  · rw [hv, show v = i - k + 1 by omega]
theorem Fit.miss (h : Fit L k 400 row) (h0 : ∀ j, memL j L → 0 ≤ j ∧ j < 359) : fstL k L = none := by
  have hb := h.bd
  cases hv : fstL k L with
  | none => rfl
  | some v =>
    have hwv := fst_win k L v hv
    have h1 := h0 v (hwv v (Int.le_refl _) (by omega))
    have h2 := h0 (v + k - 1) (hwv _ (by omega) (by omega))
    exact absurd hwv (h.no v h1.1 (by omega))
end
end Go.Proofs.Ytfpbiimjcdbaoaa
