/-
  Pairs that are turned round and doubled make the same set.
-/
import Derived.Test.YtfekiccjcfdmkaaKeepSpan
import Derived.Test.YtfekiccjcfdmkaaRefEnds
namespace Go.Proofs.Ytfekiccjcfdmkaa
/-- which pair comes at i -/
def sgm (m T i : Nat) : Nat := (i + T) % m
/-- the pairs that came so far, the last one first -/
def OL (f : Nat → Int) (m T : Nat) : Nat → List Int
  | 0 => []
  | j + 1 => f (2 * sgm m T j) :: f (2 * sgm m T j + 1) :: OL f m T j
theorem OL_length (f : Nat → Int) (m T j : Nat) : (OL f m T j).length = 2 * j := by
  induction j with
  | zero => rfl
  | succ j ih => simp only [OL, List.length_cons, ih]; omega
theorem OL_get (f : Nat → Int) (m T : Nat) : ∀ (j t : Nat), t < j → (OL f m T j)[2 * t]? = some (f (2 * sgm m T (j - 1 - t))) ∧ (OL f m T j)[2 * t + 1]? = some (f (2 * sgm m T (j - 1 - t) + 1))
  | 0, t, h => by omega
  | j + 1, 0, _ => by simp [OL]
  | j + 1, t + 1, h => by
    have ih := OL_get f m T j t (by omega)
    rw [show 2 * (t + 1) = 2 * t + 1 + 1 by omega, show j + 1 - 1 - (t + 1) = j - 1 - t by omega]
    simp only [OL, List.getElem?_cons_succ]
    exact ih
theorem sgm_lt {m T i : Nat} (hm : 0 < m) : sgm m T i < m := Nat.mod_lt _ hm
theorem sgm_onto {m T p : Nat} (hp : p < m) (hT : T < m) : ∃ i, i < m ∧ sgm m T i = p := by
  by_cases h : T ≤ p
  · refine ⟨p - T, by omega, ?_⟩
    unfold sgm
    rw [show p - T + T = p by omega]
    exact Nat.mod_eq_of_lt hp
  · refine ⟨p + m - T, by omega, ?_⟩
    unfold sgm
    rw [show p + m - T + T = p + m by omega, Nat.add_mod_right]
    exact Nat.mod_eq_of_lt hp
/-- a list as numbers by their place -/
def gD (L : List Int) (i : Nat) : Int := L.getD i 0
theorem gD_of {L : List Int} {i : Nat} {z : Int} (h : L[i]? = some z) : gD L i = z := by
  unfold gD
  rw [List.getD_eq_getElem?_getD, h]
  rfl
theorem dbl_get (f : Nat → Int) {m T : Nat} {i : Nat} (hi : i < 2 * m) : ∃ p, p < m ∧ gD (OL f m T m ++ OL f m T m) (2 * i) = f (2 * p) ∧ gD (OL f m T m ++ OL f m T m) (2 * i + 1) = f (2 * p + 1) := by
  have hl := OL_length f m T m
  by_cases h : i < m
  · obtain ⟨h1, h2⟩ := OL_get f m T m i h
    refine ⟨sgm m T (m - 1 - i), sgm_lt (by omega), gD_of ?_, gD_of ?_⟩
    · rw [List.getElem?_append_left (by omega)]; exact h1
    · rw [List.getElem?_append_left (by omega)]; exact h2
  · obtain ⟨h1, h2⟩ := OL_get f m T m (i - m) (by omega)
    refine ⟨sgm m T (m - 1 - (i - m)), sgm_lt (by omega), gD_of ?_, gD_of ?_⟩
    · rw [List.getElem?_append_right (by omega), hl, show 2 * i - 2 * m = 2 * (i - m) by omega]; exact h1
    · rw [List.getElem?_append_right (by omega), hl, show 2 * i + 1 - 2 * m = 2 * (i - m) + 1 by omega]; exact h2
theorem dbl_set (f : Nat → Int) {m T : Nat} (hT : T < m) (k : Int) : SetP (gD (OL f m T m ++ OL f m T m)) (2 * m) k ↔ SetP f m k := by
  constructor
  · rintro ⟨i, hi, h1, h2⟩
    obtain ⟨p, hp, e1, e2⟩ := dbl_get f (T := T) hi
    rw [e1] at h1
    rw [e1, e2] at h2
    exact ⟨p, hp, h1, h2⟩
  · rintro ⟨p, hp, h1, h2⟩
    obtain ⟨i, hi, hs⟩ := sgm_onto hp hT
    obtain ⟨g1, g2⟩ := OL_get f m T m (m - 1 - i) (by omega)
    have hl := OL_length f m T m
    rw [show m - 1 - (m - 1 - i) = i by omega, hs] at g1 g2
    refine ⟨m - 1 - i, by omega, ?_, ?_⟩
    · rw [gD_of (z := f (2 * p)) (by rw [List.getElem?_append_left (by omega)]; exact g1)]
      exact h1
    · rw [gD_of (z := f (2 * p)) (by rw [List.getElem?_append_left (by omega)]; exact g1), gD_of (z := f (2 * p + 1)) (by rw [List.getElem?_append_left (by omega)]; exact g2)]
      exact h2
theorem range_gD (L : List Int) : (List.range L.length).map (fun i => IV (gD L i)) = L.map IV := by
  apply List.ext_getElem?
  intro i
  rw [List.getElem?_map, List.getElem?_map]
  rcases Nat.lt_or_ge i L.length with h | h
  · rw [List.getElem?_range h, List.getElem?_eq_getElem h]
    show some (IV (gD L i)) = some (IV L[i])
    rw [gD_of (List.getElem?_eq_getElem h)]
  · rw [List.getElem?_eq_none (by simpa using h), List.getElem?_eq_none (by simpa using h)]
    rfl
end Go.Proofs.Ytfekiccjcfdmkaa
