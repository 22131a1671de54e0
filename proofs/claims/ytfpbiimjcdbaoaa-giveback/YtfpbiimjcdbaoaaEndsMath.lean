/-
  Places, ascending, each once; and the ranges between two of them of which the first is so: a set that changes at no other place is these ranges.
-/
import Derived.Test.YtfpbiimjcdbaoaaSpanMath
namespace Go.Proofs.Ytfpbiimjcdbaoaa
/-- ascending, each once -/
def Up (P : List Int) : Prop := ∀ (i j : Nat) (x y : Int), i < j → P[i]? = some x → P[j]? = some y → x < y
theorem Up.nil : Up [] := fun i j x y _ h => by simp at h
/-- P with n ahead of the place q -/
def putAt (P : List Int) (q : Nat) (n : Int) : List Int := P.take q ++ n :: P.drop q
theorem putAt_length (P : List Int) (q : Nat) (n : Int) : (putAt P q n).length = P.length + 1 := by
  unfold putAt
  rw [List.length_append, List.length_cons, List.length_take, List.length_drop]
  omega
theorem putAt_mem (P : List Int) (q : Nat) (n k : Int) : k ∈ putAt P q n ↔ k = n ∨ k ∈ P := by
  unfold putAt
  rw [List.mem_append, List.mem_cons]
  have : k ∈ P ↔ k ∈ P.take q ∨ k ∈ P.drop q := by
    rw [← List.mem_append, List.take_append_drop]
  rw [this]
  constructor
  · rintro (h | h | h)
    · exact Or.inr (Or.inl h)
    · exact Or.inl h
    · exact Or.inr (Or.inr h)
  · rintro (h | h | h)
    · exact Or.inr (Or.inl h)
    · exact Or.inl h
    · exact Or.inr (Or.inr h)
theorem putAt_get (P : List Int) (q : Nat) (n : Int) (hq : q ≤ P.length) (i : Nat) : (putAt P q n)[i]? = if i < q then P[i]? else if i = q then some n else P[i - 1]? := by
  unfold putAt
  by_cases h1 : i < q
  · rw [if_pos h1, List.getElem?_append_left (by rw [List.length_take]; omega), List.getElem?_take, if_pos h1]
  · rw [if_neg h1, List.getElem?_append_right (by rw [List.length_take]; omega), List.length_take, Nat.min_eq_left hq]
    by_cases h2 : i = q
    · subst h2
      simp
    · rw [if_neg h2]
      obtain ⟨d, hd⟩ : ∃ d, i - q = d + 1 := ⟨i - q - 1, by omega⟩
      rw [hd, List.getElem?_cons_succ, List.getElem?_drop]
      congr 1
      omega
theorem Up.put {P : List Int} (h : Up P) (q : Nat) (n : Int) (hq : q ≤ P.length) (h1 : ∀ i x, i < q → P[i]? = some x → x < n) (h2 : ∀ i x, q ≤ i → P[i]? = some x → n < x) : Up (putAt P q n) := by
  intro i j x y hij hi hj
  rw [putAt_get P q n hq] at hi hj
  by_cases c1 : i < q
  · rw [if_pos c1] at hi
    by_cases c2 : j < q
    · rw [if_pos c2] at hj
      exact h i j x y hij hi hj
    · rw [if_neg c2] at hj
      by_cases c3 : j = q
      · rw [if_pos c3] at hj
        cases hj
        exact h1 i x c1 hi
      · rw [if_neg c3] at hj
        exact h i (j - 1) x y (by omega) hi hj
  · rw [if_neg c1] at hi
    rw [if_neg (show ¬ j < q by omega), if_neg (show ¬ j = q by omega)] at hj
    by_cases c3 : i = q
    · rw [if_pos c3] at hi
      cases hi
      exact h2 (j - 1) y (by omega) hj
    · rw [if_neg c3] at hi
      exact h (i - 1) (j - 1) x y (by omega) hi hj
/-- the ranges so far, ahead of place i -/
structure Tho (P : List Int) (sf : Int → Bool) (i : Nat) (L : List (Int × Int)) : Prop where
  nrm : Nrm L
  len : L.length ≤ i
  low : ∀ s, s ∈ L → ∀ x, P[i]? = some x → s.2 ≤ x
  mem : ∀ k, memL k L ↔ ∃ j x y, j < i ∧ P[j]? = some x ∧ P[j + 1]? = some y ∧ x ≤ k ∧ k < y ∧ sf x = true
theorem Tho.start (P : List Int) (sf : Int → Bool) : Tho P sf 0 [] where
  nrm := trivial
  len := Nat.le_refl _
  low s hs := by simp at hs
  mem k := ⟨fun h => absurd h (memL_nil k), fun ⟨j, _, _, hj, _⟩ => by omega⟩
section
variable {P : List Int} {sf : Int → Bool} {i : Nat} {L : List (Int × Int)} {x y : Int}
theorem Tho.skip (h : Tho P sf i L) (hu : Up P) (hx : P[i]? = some x) (hs : sf x = false) : Tho P sf (i + 1) L where
  nrm := h.nrm
  len := by have := h.len; omega
  low s hs2 y hy := by
    have h1 := h.low s hs2 x hx
    have h2 := hu i (i + 1) x y (by omega) hx hy
    omega
  mem k := by
    rw [h.mem]
    constructor
    · rintro ⟨j, a, b, hj, r⟩
      exact ⟨j, a, b, by omega, r⟩
    · rintro ⟨j, a, b, hj, h1, h2, h3, h4, h5⟩
      refine ⟨j, a, b, ?_, h1, h2, h3, h4, h5⟩
      rcases Nat.lt_or_ge j i with q | q
      · exact q
      · obtain rfl : j = i := by omega
        rw [hx] at h1
        cases h1
        rw [hs] at h5
        cases h5
theorem Tho.mem_step (h : ∀ k, memL k L ↔ ∃ j x y, j < i ∧ P[j]? = some x ∧ P[j + 1]? = some y ∧ x ≤ k ∧ k < y ∧ sf x = true) (hx : P[i]? = some x) (hy : P[i + 1]? = some y) (hs : sf x = true) (k : Int) :
    (memL k L ∨ (x ≤ k ∧ k < y)) ↔ ∃ j x y, j < i + 1 ∧ P[j]? = some x ∧ P[j + 1]? = some y ∧ x ≤ k ∧ k < y ∧ sf x = true := by
  rw [h]
  constructor
  · rintro (⟨j, a, b, hj, r⟩ | ⟨h1, h2⟩)
    · exact ⟨j, a, b, by omega, r⟩
    · exact ⟨i, x, y, by omega, hx, hy, h1, h2, hs⟩
  · rintro ⟨j, a, b, hj, h1, h2, h3, h4, h5⟩
    rcases Nat.lt_or_ge j i with q | q
    · exact Or.inl ⟨j, a, b, q, h1, h2, h3, h4, h5⟩
    · obtain rfl : j = i := by omega
      rw [hx] at h1
      rw [hy] at h2
      cases h1
      cases h2
      exact Or.inr ⟨h3, h4⟩
/-- a range more -/
theorem Tho.new (h : Tho P sf i L) (hu : Up P) (hx : P[i]? = some x) (hy : P[i + 1]? = some y) (hs : sf x = true) (hn : ∀ M r, L = M ++ [r] → r.2 ≠ x) : Tho P sf (i + 1) (L ++ [(x, y)]) where
  nrm := by
    rw [Nrm_snoc]
    refine ⟨h.nrm, hu i (i + 1) x y (by omega) hx hy, fun s hs2 => ?_⟩
    show s.2 < x
    have h1 := h.low s hs2 x hx
    rcases List.eq_nil_or_concat L with e | ⟨M, r, e⟩
    · rw [e] at hs2; simp at hs2
    · rw [List.concat_eq_append] at e
      have h2 := hn M r e
      have h3 := h.low r (by rw [e]; simp) x hx
      have h4 := h.nrm
      rw [e, Nrm_snoc] at h4
      rw [e] at hs2
      rcases List.mem_append.1 hs2 with q | q
      · have := h4.2.2 s q
        have := h4.2.1
        omega
      · rw [List.mem_singleton] at q
        subst q
        omega
  len := by have := h.len; rw [List.length_append]; simp; omega
  low s hs2 z hz := by
    rw [hy] at hz
    cases hz
    rcases List.mem_append.1 hs2 with q | q
    · have h1 := h.low s q x hx
      have h2 := hu i (i + 1) x y (by omega) hx hy
      omega
    · rw [List.mem_singleton] at q
      subst q
      exact Int.le_refl _
  mem k := by
    rw [memL_snoc]
    exact Tho.mem_step h.mem hx hy hs k
/-- the last range goes on -/
theorem Tho.more {a : Int} (h : Tho P sf i (L ++ [(a, x)])) (hu : Up P) (hx : P[i]? = some x) (hy : P[i + 1]? = some y) (hs : sf x = true) : Tho P sf (i + 1) (L ++ [(a, y)]) where
  nrm := by
    have h1 := h.nrm
    rw [Nrm_snoc] at h1 ⊢
    have h2 := hu i (i + 1) x y (by omega) hx hy
    refine ⟨h1.1, ?_, h1.2.2⟩
    have := h1.2.1
    show a < y
    simp only at this
    omega
  len := by have := h.len; rw [List.length_append] at this ⊢; simp at this ⊢; omega
  low s hs2 z hz := by
    rw [hy] at hz
    cases hz
    rcases List.mem_append.1 hs2 with q | q
    · have h1 := h.low s (List.mem_append.2 (Or.inl q)) x hx
      have h2 := hu i (i + 1) x y (by omega) hx hy
      omega
    · rw [List.mem_singleton] at q
      subst q
      exact Int.le_refl _
  mem k := by
    rw [← Tho.mem_step h.mem hx hy hs k, memL_snoc, memL_snoc]
    have h2 := hu i (i + 1) x y (by omega) hx hy
    have h1 := h.nrm
    rw [Nrm_snoc] at h1
    have h3 := h1.2.1
    simp only at h3 ⊢
    constructor
    · rintro (q | q)
      · exact Or.inl (Or.inl q)
      · by_cases c : k < x
        · exact Or.inl (Or.inr ⟨q.1, c⟩)
        · exact Or.inr ⟨by omega, q.2⟩
    · rintro ((q | q) | q)
      · exact Or.inl q
      · exact Or.inr ⟨q.1, by omega⟩
      · exact Or.inr ⟨by omega, q.2⟩
end
/-- two neighbours with a number between them -/
theorem Up.between {P : List Int} : ∀ {k : Int} {i j : Nat} {x y : Int}, i < j → P[i]? = some x → P[j]? = some y → x ≤ k → k < y → ∃ q a b, P[q]? = some a ∧ P[q + 1]? = some b ∧ a ≤ k ∧ k < b := by
  intro k i j x y hij hi hj hx hy
  obtain ⟨d, rfl⟩ : ∃ d, j = i + 1 + d := ⟨j - (i + 1), by omega⟩
  clear hij
  induction d generalizing y with
  | zero => exact ⟨i, x, y, hi, hj, hx, hy⟩
  | succ d ih =>
    have hl : i + 1 + d < P.length := by
      have := (List.getElem?_eq_some_iff.1 hj).1
      omega
    have hz := List.getElem?_eq_getElem hl
    by_cases c : k < P[i + 1 + d]
    · exact ih c hz
    · exact ⟨i + 1 + d, _, y, hz, hj, by omega, hy⟩
/-- the ends of a list are among the places -/
def Ends (P : List Int) (L : List (Int × Int)) : Prop := ∀ r, r ∈ L → r.1 ∈ P ∧ r.2 ∈ P
theorem Ends.alike {P : List Int} {L : List (Int × Int)} (h : Ends P L) (hu : Up P) {q : Nat} {a b k : Int} (ha : P[q]? = some a) (hb : P[q + 1]? = some b) (h1 : a ≤ k) (h2 : k < b) : memB k L = memB a L := by
  have side : ∀ z, z ∈ P → z ≤ a ∨ b ≤ z := by
    intro z hz
    obtain ⟨i, hi⟩ := List.getElem?_of_mem hz
    rcases Nat.lt_trichotomy i q with c | c | c
    · have := hu i q z a c hi ha
      omega
    · subst c
      rw [ha] at hi
      cases hi
      exact Or.inl (Int.le_refl _)
    · rcases Nat.lt_or_ge (q + 1) i with c2 | c2
      · have := hu (q + 1) i b z c2 hb hi
        omega
      · obtain rfl : i = q + 1 := by omega
        rw [hb] at hi
        cases hi
        exact Or.inr (Int.le_refl _)
  have e : memB k L = true ↔ memB a L = true := by
    rw [memB_iff, memB_iff]
    unfold memL
    constructor
    · rintro ⟨r, hr, h3, h4⟩
      have s1 := side r.1 (h r hr).1
      have s2 := side r.2 (h r hr).2
      exact ⟨r, hr, by omega, by omega⟩
    · rintro ⟨r, hr, h3, h4⟩
      have s1 := side r.1 (h r hr).1
      have s2 := side r.2 (h r hr).2
      exact ⟨r, hr, by omega, by omega⟩
  cases h5 : memB k L <;> cases h6 : memB a L <;> rw [h5, h6] at e <;> simp at e <;> rfl
theorem Ends.inside {P : List Int} {L : List (Int × Int)} (h : Ends P L) (hu : Up P) {k : Int} (hk : memL k L) : ∃ q a b, P[q]? = some a ∧ P[q + 1]? = some b ∧ a ≤ k ∧ k < b := by
  obtain ⟨r, hr, h1, h2⟩ := hk
  obtain ⟨i, hi⟩ := List.getElem?_of_mem (h r hr).1
  obtain ⟨j, hj⟩ := List.getElem?_of_mem (h r hr).2
  have hij : i < j := by
    rcases Nat.lt_trichotomy i j with c | c | c
    · exact c
    · subst c
      rw [hi] at hj
      injection hj with hj
      omega
    · have := hu j i r.2 r.1 c hj hi
      omega
  exact Up.between hij hi hj h1 h2
/-- what changes at the ends of two lists alone, and holds of none outside of them, is the set of the ranges -/
theorem Tho.set {P : List Int} {A B L : List (Int × Int)} {op : Bool → Bool → Bool} (h0 : op false false = false) (hu : Up P) (hA : Ends P A) (hB : Ends P B) (h : Tho P (fun k => op (memB k A) (memB k B)) (P.length - 1) L) (k : Int) : memL k L ↔ op (memB k A) (memB k B) = true := by
  rw [h.mem]
  constructor
  · rintro ⟨j, a, b, _, ha, hb, h1, h2, h3⟩
    rw [hA.alike hu ha hb h1 h2, hB.alike hu ha hb h1 h2]
    exact h3
  · intro hk
    have hin : ∃ q a b, P[q]? = some a ∧ P[q + 1]? = some b ∧ a ≤ k ∧ k < b := by
      cases hma : memB k A with
      | true => exact hA.inside hu ((memB_iff _ _).1 hma)
      | false =>
        cases hmb : memB k B with
        | true => exact hB.inside hu ((memB_iff _ _).1 hmb)
        | false => rw [hma, hmb, h0] at hk; cases hk
    obtain ⟨q, a, b, ha, hb, h1, h2⟩ := hin
    have hl := (List.getElem?_eq_some_iff.1 hb).1
    refine ⟨q, a, b, by omega, ha, hb, h1, h2, ?_⟩
    rw [hA.alike hu ha hb h1 h2, hB.alike hu ha hb h1 h2] at hk
    exact hk
end Go.Proofs.Ytfpbiimjcdbaoaa
