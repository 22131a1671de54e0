/-
  The reduction of a matrix, column by column, as plain functions (no program in sight).
-/
import Derived.Test.YtbngmmlmhmmpbaaLin
namespace Go.Proofs.Ytbngmmlmhmmpbaa
open E
/-- the first row from d on, of the next k, that has something in column c; d + k where there is none -/
def findNZ (M : Nat → Nat → E) (c : Nat) : Nat → Nat → Nat
  | 0, d => d
  | k + 1, d => if isZe (M d c) then findNZ M c k (d + 1) else d
theorem findNZ_spec (M : Nat → Nat → E) (c k d : Nat) : d ≤ findNZ M c k d ∧ findNZ M c k d ≤ d + k ∧ (∀ i, d ≤ i → i < findNZ M c k d → M i c = ze) ∧ (findNZ M c k d < d + k → M (findNZ M c k d) c ≠ ze) := by
  induction k generalizing d with
  | zero => exact ⟨Nat.le_refl _, Nat.le_refl _, fun i h1 h2 => by simp only [findNZ] at h2; omega, fun h => by simp only [findNZ] at h; omega⟩
  | succ k ih =>
    simp only [findNZ]
    cases h : isZe (M d c)
    · exact ⟨by simp, by simp, fun i h1 h2 => by simp at h2; omega, fun _ => by simpa using (isZe_false _).1 h⟩
    · obtain ⟨h1, h2, h3, h4⟩ := ih (d + 1)
      simp only [if_true]
      refine ⟨by omega, by omega, fun i k1 k2 => ?_, fun k1 => h4 (by omega)⟩
      by_cases e : i = d
      · rw [e]; exact (isZe_iff _).1 h
      · exact h3 i (by omega) k2
theorem findNZ_unique {M : Nat → Nat → E} {c k d p : Nat} (h1 : d ≤ p) (h2 : p ≤ d + k) (h3 : ∀ i, d ≤ i → i < p → M i c = ze) (h4 : p < d + k → M p c ≠ ze) : findNZ M c k d = p := by
  obtain ⟨a1, a2, a3, a4⟩ := findNZ_spec M c k d
  rcases Nat.lt_trichotomy (findNZ M c k d) p with h | h | h
  · exact absurd (h3 _ a1 h) (a4 (by omega))
  · exact h
  · exact absurd (a3 p h1 h) (h4 (by omega))
/-- d and p change places -/
def sw (d p r : Nat) : Nat := if r = d then p else if r = p then d else r
theorem sw_lt {n d p r : Nat} (hd : d < n) (hp : p < n) (hr : r < n) : sw d p r < n := by unfold sw; split <;> (try split) <;> omega
theorem sw_inj {d p r s : Nat} (h : sw d p r = sw d p s) : r = s := by
  unfold sw at h
  split at h <;> (try split at h) <;> (try split at h) <;> (try split at h) <;> omega
theorem sw_sw (d p r : Nat) : sw d p (sw d p r) = r := by
  unfold sw
  by_cases e1 : r = d
  · subst e1; simp
  · by_cases e2 : r = p
    · subst e2; simp [e1]
    · simp [e1, e2]
def swp (M : Nat → Nat → E) (d p : Nat) (i : Nat) : Nat → E := M (sw d p i)
def scl (M : Nat → Nat → E) (d : Nat) (f : E) (i k : Nat) : E := if i = d then mu (M d k) f else M i k
/-- of the first q rows, but row d, so much of row d is added that column c is cleared -/
def clr (q : Nat) (M : Nat → Nat → E) (d c : Nat) (i k : Nat) : E := if i < q ∧ i ≠ d then ad (M i k) (mu (M d k) (M i c)) else M i k
def redStep (n c : Nat) (s : (Nat → Nat → E) × Nat) : (Nat → Nat → E) × Nat :=
  if findNZ s.1 c (n - s.2) s.2 < n then (clr n (scl (swp s.1 s.2 (findNZ s.1 c (n - s.2) s.2)) s.2 (iv (s.1 (findNZ s.1 c (n - s.2) s.2) c))) s.2 c, s.2 + 1) else s
/-- the matrix and the number of rows done behind k columns -/
def redTo (n : Nat) (M : Nat → Nat → E) : Nat → (Nat → Nat → E) × Nat
  | 0 => (M, 0)
  | k + 1 => redStep n k (redTo n M k)
theorem redTo_le (n : Nat) (M : Nat → Nat → E) (k : Nat) : (redTo n M k).2 ≤ n ∧ (redTo n M k).2 ≤ k := by
  induction k with
  | zero => exact ⟨Nat.zero_le _, Nat.zero_le _⟩
  | succ k ih =>
    have e : redTo n M (k + 1) = redStep n k (redTo n M k) := rfl
    rw [e]
    unfold redStep
    split
    · rename_i h
      have := (findNZ_spec (redTo n M k).1 k (n - (redTo n M k).2) (redTo n M k).2).1
      exact ⟨by simp only; omega, by simp only; omega⟩
    · exact ⟨ih.1, by omega⟩
end Go.Proofs.Ytbngmmlmhmmpbaa
