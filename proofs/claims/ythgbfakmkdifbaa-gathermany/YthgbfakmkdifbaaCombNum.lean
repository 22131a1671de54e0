/-
  comb.picked, Number: whether a list is a pick, and which one; the memory stays as it was.
-/
import Derived.Test.YthgbfakmkdifbaaChecked
import Derived.WalkKit
import Derived.Test.YthgbfakmkdifbaaCombBase
namespace Go.Proofs.Ythgbfakmkdifbaa
open Go.RowKit Go.Deep
/-- the r numbers from place j on ascend from s on, below n -/
def okF (n : Int) (f : Nat → Int) : Nat → Nat → Int → Bool
  | 0, _, _ => true
  | r + 1, j, s => if f j < s ∨ n ≤ f j then false else okF n f r (j + 1) (f j + 1)
def nat (f : Nat → Int) (i : Nat) : Nat := (f i).toNat
theorem okF_asc (N : Nat) (f : Nat → Int) : ∀ (r j s : Nat), okF N f r j s = true → asc s N (lst (nat f) j r) ∧ ∀ i, j ≤ i → i < j + r → f i = (nat f i : Int)
  | 0, j, s, _ => ⟨trivial, fun i h1 h2 => by omega⟩
  | r + 1, j, s, h => by
    unfold okF at h
    split at h
    · cases h
    · rename_i hc
      have e : f j = (nat f j : Int) := by unfold nat; omega
      rw [show f j + 1 = ((nat f j + 1 : Nat) : Int) by omega] at h
      obtain ⟨h1, h2⟩ := okF_asc N f r (j + 1) (nat f j + 1) h
      rw [lst_succ]
      refine ⟨⟨by omega, by omega, h1⟩, fun i hi1 hi2 => ?_⟩
      by_cases hij : i = j
      · rw [hij]; exact e
      · exact h2 i (by omega) (by omega)
theorem asc_okF (N : Nat) (f : Nat → Int) : ∀ (r j s : Nat) (p : List Nat), p.length = r → (∀ i, i < r → f (j + i) = (p.getD i 0 : Nat)) → asc s N p → okF N f r j s = true
  | 0, j, s, p, _, _, _ => rfl
  | r + 1, j, s, [], hl, _, _ => by cases hl
  | r + 1, j, s, a :: p, hl, hf, h => by
    have e : f j = (a : Int) := hf 0 (by omega)
    unfold okF
    rw [if_neg (by have := h.1; have := h.2.1; omega), e]
    refine asc_okF N f r (j + 1) (a + 1) p (by simpa using hl) (fun i hi => ?_) h.2.2
    have := hf (i + 1) (by omega)
    rw [show j + (i + 1) = j + 1 + i by omega] at this
    simpa using this
theorem asc_len : ∀ (p : List Nat) (s e : Nat), asc s e p → p.length ≤ e - s
  | [], _, _, _ => by simp
  | a :: p, s, e, h => by
    have := asc_len p (a + 1) e h.2.2
    have := h.1
    have := h.2.1
    simp only [List.length_cons]
    omega
def numE (n : Int) (l : Nat) (f : Nat → Int) : Int := if 0 ≤ n ∧ n ≤ 12 then (if okF n f l 0 0 = true then 0 else 4) else 2
def numV (n : Int) (l : Nat) (f : Nat → Int) : Int := if 0 ≤ n ∧ n ≤ 12 then (if okF n f l 0 0 = true then (nm n.toNat 0 (lst (nat f) 0 l) : Int) else 0) else 0
theorem nm_here (N a : Nat) (p : List Nat) (h : a < N) : nm (N - a) a (a :: p) = nm (N - (a + 1)) (a + 1) p := by
  rw [show N - a = N - (a + 1) + 1 by omega]
  show (if a = a then nm (N - (a + 1)) (a + 1) p else _) = _
  rw [if_pos rfl]
theorem nm_past (N x a : Nat) (p : List Nat) (h : x < a) (ha : a < N) : nm (N - x) x (a :: p) = cho (N - x - 1) p.length + nm (N - (x + 1)) (x + 1) (a :: p) := by
  rw [show N - x = N - (x + 1) + 1 by omega]
  show (if a = x then _ else cho (N - (x + 1)) p.length + nm (N - (x + 1)) (x + 1) (a :: p)) = _
  rw [if_neg (by omega)]
  rfl
end Go.Proofs.Ythgbfakmkdifbaa
