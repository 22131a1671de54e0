/-
  quicksetkeep.pickAhead; picks in their order, one behind the other.
-/
import Derived.Test.YthgbfakmkdifbaaChecked
import Derived.WalkKit
import Derived.BigQuiet
import Derived.Test.YthgbfakmkdifbaaCombKeep
namespace Go.Proofs.Ythgbfakmkdifbaa
open Go.RowKit Go.Deep E
theorem pkF_zero (a : Nat) (p : List Nat) : pkF (a :: p) 0 = (a : Int) := rfl
theorem pkF_succ (a : Nat) (p : List Nat) (x : Nat) : pkF (a :: p) (x + 1) = pkF p x := rfl
theorem pk_lex : ∀ (m k s i : Nat) (p q : List Nat), (pk m k s)[i]? = some p → (pk m k s)[i + 1]? = some q → ∃ t, t < k ∧ (∀ x, x < t → pkF p x = pkF q x) ∧ pkF p t < pkF q t
  | m, 0, s, i, p, q, hp, hq => by rw [pk_zero] at hq; simp at hq
  | 0, k + 1, s, i, p, q, hp, hq => by simp [pk] at hp
  | m + 1, k + 1, s, i, p, q, hp, hq => by
    have hl := pk_len m k (s + 1)
    change ((pk m k (s + 1)).map (s :: ·) ++ pk m (k + 1) (s + 1))[i]? = _ at hp
    change ((pk m k (s + 1)).map (s :: ·) ++ pk m (k + 1) (s + 1))[i + 1]? = _ at hq
    by_cases h1 : i < cho m k
    · rw [List.getElem?_append_left (by simp [hl, h1]), List.getElem?_map] at hp
      cases hp' : (pk m k (s + 1))[i]? with
      | none => rw [hp'] at hp; cases hp
      | some p' =>
        rw [hp'] at hp
        cases hp
        by_cases h2 : i + 1 < cho m k
        · rw [List.getElem?_append_left (by simp [hl, h2]), List.getElem?_map] at hq
          cases hq' : (pk m k (s + 1))[i + 1]? with
          | none => rw [hq'] at hq; cases hq
          | some q' =>
            rw [hq'] at hq
            cases hq
            obtain ⟨t, ht, h3, h4⟩ := pk_lex m k (s + 1) i p' q' hp' hq'
            refine ⟨t + 1, by omega, fun x hx => ?_, h4⟩
            cases x with
            | zero => rfl
            | succ x => exact h3 x (by omega)
        · rw [List.getElem?_append_right (by simp [hl]; omega)] at hq
          have hm := pk_mem _ _ _ _ (List.mem_of_getElem? hq)
          cases q with
          | nil => simp at hm
          | cons b q =>
            have := hm.2.1
            refine ⟨0, by omega, fun x hx => by omega, ?_⟩
            show (s : Int) < (b : Int)
            omega
    · rw [List.getElem?_append_right (by simp [hl]; omega)] at hp hq
      simp only [List.length_map, hl] at hp hq
      rw [show i + 1 - cho m k = i - cho m k + 1 by omega] at hq
      exact pk_lex m (k + 1) (s + 1) _ p q hp hq
theorem asc_bd : ∀ (p : List Nat) (s e : Nat), asc s e p → ∀ x, x < p.length → (s : Int) ≤ pkF p x ∧ pkF p x < e ∧ (∀ y, y < x → pkF p y < pkF p x)
  | [], _, _, _, x, hx => by simp at hx
  | a :: p, s, e, h, 0, _ => by
    have h1 := h.1
    have h2 := h.2.1
    refine ⟨?_, ?_, fun y hy => by omega⟩
    · show (s : Int) ≤ (a : Int); omega
    · show (a : Int) < (e : Int); omega
  | a :: p, s, e, h, x + 1, hx => by
    obtain ⟨h1, h2, h3⟩ := asc_bd p (a + 1) e h.2.2 x (by simpa using hx)
    have h0 := h.1
    rw [pkF_succ]
    refine ⟨by omega, h2, fun y hy => ?_⟩
    cases y with
    | zero => rw [pkF_zero]; omega
    | succ y => rw [pkF_succ]; exact h3 y (by omega)
theorem asc_at {p : List Nat} {M x : Nat} (h : asc 0 M p) (hx : x < p.length) : ∃ v : Nat, pkF p x = (v : Int) ∧ v < M ∧ ∀ y, x = y + 1 → ∃ u : Nat, pkF p y = (u : Int) ∧ u < v := by
  obtain ⟨h1, h2, h3⟩ := asc_bd p 0 M h x hx
  refine ⟨(pkF p x).toNat, by omega, by omega, fun y e => ?_⟩
  have h4 := (asc_bd p 0 M h y (by omega)).1
  have h5 := h3 y (by omega)
  exact ⟨(pkF p y).toNat, by omega, by omega⟩
theorem ext_drewK (w : World) (k : Nat) : Ext w (w.drewN k) := ⟨⟨rfl, rfl, rfl, Nat.le_refl _, fun _ _ => rfl⟩⟩
end Go.Proofs.Ythgbfakmkdifbaa
