/-
  Picks of k of m numbers from s on, in order; how many there are; which one a pick is.
-/
import Derived.WalkKit
namespace Go.Proofs.Ythgbfakmkdifbaa
/-- how many picks of k of n there are -/
def cho : Nat → Nat → Nat
  | _, 0 => 1
  | 0, _ + 1 => 0
  | n + 1, k + 1 => cho n k + cho n (k + 1)
/-- the picks of k of the m numbers from s on -/
def pk : Nat → Nat → Nat → List (List Nat)
  | _, 0, _ => [[]]
  | 0, _ + 1, _ => []
  | m + 1, k + 1, s => (pk m k (s + 1)).map (s :: ·) ++ pk m (k + 1) (s + 1)
theorem cho_zero (n : Nat) : cho n 0 = 1 := by cases n <;> rfl
theorem pk_zero (m s : Nat) : pk m 0 s = [[]] := by cases m <;> rfl
theorem pk_len : ∀ (m k s : Nat), (pk m k s).length = cho m k
  | m, 0, s => by rw [pk_zero, cho_zero]; rfl
  | 0, _ + 1, _ => rfl
  | m + 1, k + 1, s => by simp [pk, cho, pk_len m k (s + 1), pk_len m (k + 1) (s + 1)]
theorem cho_few : ∀ (m k : Nat), m < k → cho m k = 0
  | 0, _ + 1, _ => rfl
  | m + 1, k + 1, h => by unfold cho; rw [cho_few m k (by omega), cho_few m (k + 1) (by omega)]
theorem cho_all : ∀ (m : Nat), cho m m = 1
  | 0 => rfl
  | m + 1 => by unfold cho; rw [cho_all m, cho_few m (m + 1) (by omega)]
theorem cho_pos : ∀ (m k : Nat), k ≤ m → 0 < cho m k
  | m, 0, _ => by rw [cho_zero]; omega
  | m + 1, k + 1, h => by unfold cho; have := cho_pos m k (by omega); omega
theorem pk_few (m k s : Nat) (h : m < k) : pk m k s = [] := List.length_eq_zero_iff.1 (by rw [pk_len, cho_few m k h])
/-- ascending numbers from s on, below e -/
def asc : Nat → Nat → List Nat → Prop
  | _, _, [] => True
  | s, e, a :: p => s ≤ a ∧ a < e ∧ asc (a + 1) e p
theorem asc_mono {e : Nat} : ∀ {p : List Nat} {s s' : Nat}, asc s e p → s' ≤ s → asc s' e p
  | [], _, _, _, _ => trivial
  | _ :: _, _, _, h, hs => ⟨by have := h.1; omega, h.2⟩
theorem pk_mem : ∀ (m k s : Nat) (p : List Nat), p ∈ pk m k s → p.length = k ∧ asc s (s + m) p
  | m, 0, s, p, h => by
    rw [pk_zero] at h
    rw [List.mem_singleton.1 h]
    exact ⟨rfl, trivial⟩
  | 0, _ + 1, _, p, h => by cases h
  | m + 1, k + 1, s, p, h => by
    rcases List.mem_append.1 h with h | h
    · obtain ⟨q, hq, rfl⟩ := List.mem_map.1 h
      obtain ⟨h1, h2⟩ := pk_mem m k (s + 1) q hq
      exact ⟨by simp [h1], Nat.le_refl _, by omega, by rw [show s + (m + 1) = s + 1 + m by omega]; exact h2⟩
    · obtain ⟨h1, h2⟩ := pk_mem m (k + 1) (s + 1) p h
      exact ⟨h1, asc_mono (by rw [show s + (m + 1) = s + 1 + m by omega]; exact h2) (by omega)⟩
/-- which one it is -/
def nm : Nat → Nat → List Nat → Nat
  | _, _, [] => 0
  | 0, _, _ :: _ => 0
  | m + 1, s, a :: p => if a = s then nm m (s + 1) p else cho m p.length + nm m (s + 1) (a :: p)
theorem nm_nil (m s : Nat) : nm m s [] = 0 := by cases m <;> rfl
theorem pk_nm : ∀ (m s : Nat) (p : List Nat), asc s (s + m) p → (pk m p.length s)[nm m s p]? = some p
  | m, s, [], _ => by rw [nm_nil]; simp [pk_zero]
  | 0, s, a :: p, h => by have := h.1; have := h.2.1; omega
  | m + 1, s, a :: p, h => by
    have hl := pk_len m p.length (s + 1)
    unfold nm
    by_cases e : a = s
    · rw [if_pos e]
      subst e
      have ih := pk_nm m (a + 1) p (by rw [show a + 1 + m = a + (m + 1) by omega]; exact h.2.2)
      show ((pk m p.length (a + 1)).map (a :: ·) ++ pk m (p.length + 1) (a + 1))[nm m (a + 1) p]? = _
      have hlt : nm m (a + 1) p < (pk m p.length (a + 1)).length := by
        rcases Nat.lt_or_ge (nm m (a + 1) p) (pk m p.length (a + 1)).length with h1 | h1
        · exact h1
        · rw [List.getElem?_eq_none h1] at ih; cases ih
      rw [List.getElem?_append_left (by simpa using hlt), List.getElem?_map, ih]
      rfl
    · rw [if_neg e]
      have ih := pk_nm m (s + 1) (a :: p) ⟨by have := h.1; omega, by have := h.2.1; omega, by rw [show s + 1 + m = s + (m + 1) by omega]; exact h.2.2⟩
      show ((pk m p.length (s + 1)).map (s :: ·) ++ pk m (p.length + 1) (s + 1))[cho m p.length + nm m (s + 1) (a :: p)]? = _
      rw [List.getElem?_append_right (by simp [hl])]
      simp only [List.length_map, hl, Nat.add_sub_cancel_left]
      exact ih
theorem nm_pk : ∀ (m k s i : Nat) (p : List Nat), (pk m k s)[i]? = some p → nm m s p = i
  | m, 0, s, i, p, h => by
    rw [pk_zero] at h
    cases i with
    | zero => simp at h; subst h; exact nm_nil _ _
    | succ i => simp at h
  | 0, _ + 1, _, i, p, h => by simp [pk] at h
  | m + 1, k + 1, s, i, p, h => by
    have hl := pk_len m k (s + 1)
    change ((pk m k (s + 1)).map (s :: ·) ++ pk m (k + 1) (s + 1))[i]? = _ at h
    by_cases hi : i < cho m k
    · rw [List.getElem?_append_left (by simp [hl, hi]), List.getElem?_map] at h
      cases hq : (pk m k (s + 1))[i]? with
      | none => rw [hq] at h; cases h
      | some q =>
        rw [hq] at h
        cases h
        show (if s = s then nm m (s + 1) q else _) = i
        rw [if_pos rfl]
        exact nm_pk m k (s + 1) i q hq
    · rw [List.getElem?_append_right (by simp [hl]; omega)] at h
      simp only [List.length_map, hl] at h
      have hm := pk_mem _ _ _ _ (List.mem_of_getElem? h)
      cases p with
      | nil => simp at hm
      | cons a p =>
        have h1 := hm.2.1
        have h2 : p.length = k := by simpa using hm.1
        show (if a = s then _ else cho m p.length + nm m (s + 1) (a :: p)) = i
        rw [if_neg (by omega), nm_pk m (k + 1) (s + 1) _ _ h, h2]
        omega
theorem nm_lt (m s : Nat) (p : List Nat) (h : asc s (s + m) p) : nm m s p < cho m p.length := by
  rw [← pk_len m p.length s]
  have := pk_nm m s p h
  rcases Nat.lt_or_ge (nm m s p) (pk m p.length s).length with h1 | h1
  · exact h1
  · rw [List.getElem?_eq_none h1] at this; cases this
/-- the numbers of a list from place j on -/
def lst (g : Nat → Nat) (j n : Nat) : List Nat := (List.range' j n).map g
theorem lst_zero (g : Nat → Nat) (j : Nat) : lst g j 0 = [] := rfl
theorem lst_succ (g : Nat → Nat) (j n : Nat) : lst g j (n + 1) = g j :: lst g (j + 1) n := by simp [lst, List.range'_succ]
theorem lst_len (g : Nat → Nat) (j n : Nat) : (lst g j n).length = n := by simp [lst]
theorem lst_last (g : Nat → Nat) (j : Nat) : ∀ n, lst g j (n + 1) = lst g j n ++ [g (j + n)] := fun n => by simp [lst, List.range'_1_concat]
theorem cho_le : ∀ n, n < 13 → ∀ k, k < 14 → cho n k ≤ 924 := of_decide_eq_true (by rfl)
theorem cho_step : ∀ n, n < 13 → ∀ i, i < 13 → i ≤ n → cho n i * (n - i) = cho n (i + 1) * (i + 1) := of_decide_eq_true (by rfl)
theorem cho_sym : ∀ n, n < 13 → ∀ i, i < 13 → i ≤ n → cho n i = cho n (n - i) := of_decide_eq_true (by rfl)
end Go.Proofs.Ythgbfakmkdifbaa
