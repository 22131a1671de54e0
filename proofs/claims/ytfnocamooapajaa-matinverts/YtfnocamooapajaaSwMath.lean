/-
  The document's own sweep of a matrix as plain functions, and that it counts what the reduction counts (no program in sight).
-/
import Derived.Test.YtfnocamooapajaaLinAlg
namespace Go.Proofs.Ytfnocamooapajaa
open E
/-- of the rows behind row t, up to row q, so much of row t is added that column c is cleared -/
def elim (q : Nat) (W : Nat → Nat → E) (t c : Nat) (j k : Nat) : E := if t < j ∧ j < q then ad (W j k) (mu (mu (W j c) (iv (W t c))) (W t k)) else W j k
def swStep (n c : Nat) (s : (Nat → Nat → E) × Nat) : (Nat → Nat → E) × Nat :=
  if findNZ s.1 c (n - s.2) s.2 < n then (elim n (swp s.1 s.2 (findNZ s.1 c (n - s.2) s.2)) s.2 c, s.2 + 1) else s
def swTo (n : Nat) (M : Nat → Nat → E) : Nat → (Nat → Nat → E) × Nat
  | 0 => (M, 0)
  | k + 1 => swStep n k (swTo n M k)
theorem swTo_le (n : Nat) (M : Nat → Nat → E) (k : Nat) : (swTo n M k).2 ≤ n ∧ (swTo n M k).2 ≤ k := by
  induction k with
  | zero => exact ⟨Nat.zero_le _, Nat.zero_le _⟩
  | succ k ih =>
    have e : swTo n M (k + 1) = swStep n k (swTo n M k) := rfl
    rw [e]
    unfold swStep
    split
    · rename_i h
      have := (findNZ_spec (swTo n M k).1 k (n - (swTo n M k).2) (swTo n M k).2).1
      exact ⟨by simp only; omega, by simp only; omega⟩
    · exact ⟨ih.1, by omega⟩
theorem sw_ge {d p i : Nat} (hp : d ≤ p) (hi : d ≤ i) : d ≤ sw d p i := by unfold sw; split <;> (try split) <;> omega
/-- the rows that are not done yet are the same, and so is their number -/
theorem sweep_red (n : Nat) (M : Nat → Nat → E) (k : Nat) : (swTo n M k).2 = (redTo n M k).2 ∧ ∀ i, (redTo n M k).2 ≤ i → i < n → (swTo n M k).1 i = (redTo n M k).1 i := by
  induction k with
  | zero => exact ⟨rfl, fun _ _ _ => rfl⟩
  | succ k ih =>
    obtain ⟨i1, i2⟩ := ih
    have hd := (redTo_le n M k).1
    have e : redTo n M (k + 1) = redStep n k ((redTo n M k).1, (redTo n M k).2) := rfl
    have e' : swTo n M (k + 1) = swStep n k ((swTo n M k).1, (swTo n M k).2) := rfl
    rw [e, e', i1]
    generalize (redTo n M k).1 = N at *
    generalize (swTo n M k).1 = W at *
    generalize (redTo n M k).2 = d at *
    have ef : findNZ W k (n - d) d = findNZ N k (n - d) d := by
      obtain ⟨h1, h2, h3, h4⟩ := findNZ_spec N k (n - d) d
      exact findNZ_unique h1 h2 (fun i a b => by rw [i2 i a (by omega)]; exact h3 i a b) (fun a => by rw [i2 _ h1 (by omega)]; exact h4 a)
    obtain ⟨h1, h2, _, h4⟩ := findNZ_spec N k (n - d) d
    by_cases h : findNZ N k (n - d) d < n
    · have r1 : redStep n k (N, d) = (clr n (scl (swp N d (findNZ N k (n - d) d)) d (iv (N (findNZ N k (n - d) d) k))) d k, d + 1) := if_pos h
      have r2 : swStep n k (W, d) = (elim n (swp W d (findNZ N k (n - d) d)) d k, d + 1) := by
        unfold swStep
        simp only
        rw [ef, if_pos h]
      rw [r1, r2]
      have h4' := h4 (by omega)
      generalize findNZ N k (n - d) d = p at *
      refine ⟨rfl, fun i hi hin => funext fun x => ?_⟩
      simp only at hi
      have hdn : d < n := by omega
      show elim n (swp W d p) d k i x = clr n (scl (swp N d p) d (iv (N p k))) d k i x
      rw [(step_cols hdn h4' i hin).1, if_neg (by omega)]
      have e1 : elim n (swp W d p) d k i x = ad (W (sw d p i) x) (mu (mu (W (sw d p i) k) (iv (W (sw d p d) k))) (W (sw d p d) x)) := if_pos ⟨by omega, hin⟩
      have es : sw d p d = p := if_pos rfl
      rw [e1, es, i2 p h1 h, i2 _ (sw_ge h1 (by omega)) (sw_lt hdn h hin)]
      congr 1
      rw [mu_comm (N (sw d p i) k), mu_assoc, mu_comm (N p x), mu_assoc, mu_comm (N p x)]
    · have r1 : redStep n k (N, d) = (N, d) := if_neg h
      have r2 : swStep n k (W, d) = (W, d) := by
        unfold swStep
        simp only
        rw [ef, if_neg h]
      rw [r1, r2]
      exact ⟨rfl, i2⟩
end Go.Proofs.Ytfnocamooapajaa
