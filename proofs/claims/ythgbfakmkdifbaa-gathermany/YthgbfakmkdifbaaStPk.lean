/-
  The picks that Gather tries, and the places that are gone then: plain facts.
-/
import Derived.Test.YthgbfakmkdifbaaStIter
import Derived.Test.YthgbfakmkdifbaaStWith
import Derived.Test.YthgbfakmkdifbaaCombKeep2
namespace Go.Proofs.Ythgbfakmkdifbaa
open Go.RowKit Go.Deep E
theorem plcs_len (n : Nat) (T : Nat → Bool) : (plcs n T true).length + (plcs n T false).length = n := by
  have h := split_len n fun r => T r == true
  have e : (fun k => !(T k == true)) = fun r => T r == false := by
    funext r
    cases T r <;> rfl
  unfold plcs
  rw [← e]
  exact h
theorem plcs_at {n : Nat} {T : Nat → Bool} {b : Bool} {i : Nat} (h : i < (plcs n T b).length) : (plcs n T b).getD i 0 < n ∧ T ((plcs n T b).getD i 0) = b := by
  have := PL_at h
  exact ⟨this.1, eq_of_beq this.2⟩
/-- the places that are gone where a pick is taken as bad -/
def badL (n : Nat) (T : Nat → Bool) (p : List Nat) : List Nat := p.map fun i => (plcs n T false).getD i 0
def goneL (n : Nat) (T : Nat → Bool) (p : List Nat) : List Nat := plcs n T true ++ badL n T p
theorem allPk_in {N : Nat} {p : List Nat} : ∀ {m : Nat}, p ∈ allPk N m → ∃ k, k < m ∧ p ∈ pk N k 0
  | 0, h => by simp [allPk] at h
  | m + 1, h => by
    rcases List.mem_append.1 (show p ∈ allPk N m ++ pk N m 0 from h) with h | h
    · obtain ⟨k, h1, h2⟩ := allPk_in h
      exact ⟨k, by omega, h2⟩
    · exact ⟨m, by omega, h⟩
theorem pick_facts {N m : Nat} {p : List Nat} (h : p ∈ allPk N m) : p.length < m ∧ (∀ i, i < p.length → p.getD i 0 < N) ∧ ∀ i j, i < j → j < p.length → p.getD i 0 < p.getD j 0 := by
  obtain ⟨k, h1, h2⟩ := allPk_in h
  obtain ⟨h3, h4⟩ := pk_mem N k 0 p h2
  rw [Nat.zero_add] at h4
  have hb := asc_bd p 0 N h4
  have e : ∀ i, pkF p i = ((p.getD i 0 : Nat) : Int) := fun i => by unfold pkF; rw [List.getD_eq_getElem?_getD]
  refine ⟨by omega, fun i hi => ?_, fun i j hij hj => ?_⟩
  · have := (hb i hi).2.1
    rw [e] at this
    omega
  · have := (hb j hj).2.2 i hij
    rw [e, e] at this
    omega
theorem badL_len (n : Nat) (T : Nat → Bool) (p : List Nat) : (badL n T p).length = p.length := List.length_map _
theorem badL_at {n : Nat} {T : Nat → Bool} {p : List Nat} {i : Nat} (hi : i < p.length) : (badL n T p).getD i 0 = (plcs n T false).getD (p.getD i 0) 0 := by
  unfold badL
  rw [List.getD_eq_getElem?_getD, List.getElem?_map, List.getElem?_eq_getElem hi]
  simp only [Option.map_some, Option.getD_some]
  rw [List.getD_eq_getElem?_getD (l := p), List.getElem?_eq_getElem hi]
  rfl
theorem goneL_len (n : Nat) (T : Nat → Bool) (p : List Nat) : (goneL n T p).length = (plcs n T true).length + p.length := by unfold goneL; rw [List.length_append, badL_len]
theorem goneL_lo {n : Nat} {T : Nat → Bool} {p : List Nat} {i : Nat} (hi : i < (plcs n T true).length) : (goneL n T p).getD i 0 = (plcs n T true).getD i 0 := by
  unfold goneL
  rw [List.getD_eq_getElem?_getD, List.getD_eq_getElem?_getD, List.getElem?_append_left hi]
theorem goneL_hi {n : Nat} {T : Nat → Bool} {p : List Nat} {i : Nat} : (goneL n T p).getD ((plcs n T true).length + i) 0 = (badL n T p).getD i 0 := by
  unfold goneL
  rw [List.getD_eq_getElem?_getD, List.getD_eq_getElem?_getD, List.getElem?_append_right (by omega), Nat.add_sub_cancel_left]
section
variable {n m : Nat} {T : Nat → Bool} {p : List Nat}
theorem goneL_lt (hp : p ∈ allPk (plcs n T false).length m) {i : Nat} (hi : i < (goneL n T p).length) : (goneL n T p).getD i 0 < n := by
  have hf := pick_facts hp
  rw [goneL_len] at hi
  by_cases e : i < (plcs n T true).length
  · rw [goneL_lo e]; exact (plcs_at e).1
  · obtain ⟨j, rfl⟩ : ∃ j, i = (plcs n T true).length + j := ⟨i - (plcs n T true).length, by omega⟩
    rw [goneL_hi, badL_at (by omega)]
    exact (plcs_at (hf.2.1 j (by omega))).1
theorem goneL_ne (hp : p ∈ allPk (plcs n T false).length m) {i j : Nat} (hij : i < j) (hj : j < (goneL n T p).length) : (goneL n T p).getD i 0 ≠ (goneL n T p).getD j 0 := by
  have hf := pick_facts hp
  rw [goneL_len] at hj
  by_cases e : j < (plcs n T true).length
  · rw [goneL_lo e, goneL_lo (by omega)]
    exact Nat.ne_of_lt (PL_lt hij e)
  · obtain ⟨y, rfl⟩ : ∃ y, j = (plcs n T true).length + y := ⟨j - (plcs n T true).length, by omega⟩
    have hy := hf.2.1 y (by omega)
    rw [goneL_hi (i := y), badL_at (by omega)]
    by_cases e2 : i < (plcs n T true).length
    · rw [goneL_lo e2]
      intro q
      have h1 := (plcs_at e2).2
      have h2 := (plcs_at hy).2
      rw [q, h2] at h1
      cases h1
    · obtain ⟨x, rfl⟩ : ∃ x, i = (plcs n T true).length + x := ⟨i - (plcs n T true).length, by omega⟩
      rw [goneL_hi (i := x), badL_at (by omega)]
      exact Nat.ne_of_lt (PL_lt (hf.2.2 x y (by omega) (by omega)) hy)
end
theorem hasB_mem (l : List Nat) (r : Nat) : hasB l.length (fun i => ((l.getD i 0 : Nat) : Int)) r = decide (r ∈ l) := by
  rw [Bool.eq_iff_iff, hasB_iff, decide_eq_true_eq]
  constructor
  · rintro ⟨i, hi, e⟩
    have e2 : r = l.getD i 0 := by omega
    rw [e2, List.getD_eq_getElem?_getD, List.getElem?_eq_getElem hi]
    exact List.getElem_mem hi
  · intro h
    obtain ⟨i, hi, e⟩ := List.getElem_of_mem h
    refine ⟨i, hi, ?_⟩
    rw [List.getD_eq_getElem?_getD, List.getElem?_eq_getElem hi, Option.getD_some, e]
end Go.Proofs.Ythgbfakmkdifbaa
