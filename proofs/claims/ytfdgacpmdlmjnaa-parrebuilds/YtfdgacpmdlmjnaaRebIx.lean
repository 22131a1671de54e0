/-
  What the round of quicksetref.ParRebuild that solves one place needs of plain numbers: places of holes in their list, the right side as a running sum, what is solved told as rebZ.
-/
import Derived.Test.YtfdgacpmdlmjnaaRebMath
import Derived.Test.YtfdgacpmdlmjnaaAlg2
namespace Go.Proofs.Ytfdgacpmdlmjnaa
open Go.RowKit Go.Deep E
theorem PL_next (i : Nat) (g : Nat → Bool) : PL (i + 1) g = if g i then PL i g ++ [i] else PL i g := by
  unfold PL
  rw [List.range_succ, List.filter_append]
  cases hg : g i <;> simp [hg]
theorem PL_ix {n i : Nat} {g : Nat → Bool} (hi : i < n) (h : g i = true) : (PL i g).length < (PL n g).length ∧ (PL n g).getD (PL i g).length 0 = i := by
  obtain ⟨k, rfl⟩ : ∃ k, n = (i + 1) + k := ⟨n - (i + 1), by omega⟩
  have e : ∃ t, PL (i + 1 + k) g = PL i g ++ i :: t := by
    refine ⟨((List.range k).map (i + 1 + ·)).filter g, ?_⟩
    have h1 := PL_next i g
    rw [if_pos h] at h1
    have h2 : PL (i + 1 + k) g = PL (i + 1) g ++ ((List.range k).map (i + 1 + ·)).filter g := by
      unfold PL
      rw [List.range_add, List.filter_append]
    rw [h2, h1]
    simp
  obtain ⟨t, e⟩ := e
  rw [e]
  constructor
  · simp
  · simp
/-- the right side of one equation, when i data columns have come -/
def runE (n0 j : Nat) (Z : Nat → Nat → E) (x i : Nat) : E := ad (Z (n0 + j) x) (sm i fun i' => mu (wt j i') (Z i' x))
theorem runE_zero (n0 j : Nat) (Z : Nat → Nat → E) (x : Nat) : runE n0 j Z x 0 = Z (n0 + j) x := ad_ze _
theorem runE_next (n0 j : Nat) (Z : Nat → Nat → E) (x i : Nat) : runE n0 j Z x (i + 1) = ad (runE n0 j Z x i) (mu (wt j i) (Z i x)) := (ad_assoc _ _ _).symm
theorem runE_hole {n0 j : Nat} {Z : Nat → Nat → E} {x i : Nat} (h : Z i x = ze) : runE n0 j Z x (i + 1) = runE n0 j Z x i := by
  rw [runE_next, h, mu_ze, ad_ze]
theorem runE_done (n0 : Nat) (j : Nat → Nat) (Z : Nat → Nat → E) (a x : Nat) : runE n0 (j a) Z x n0 = missE n0 j Z a x := ad_comm _ _
theorem sol_part (t n0 : Nat) (h j : Nat → Nat) (Z : Nat → Nat → E) (b x : Nat) : sol t (wtM h j) (fun a => missE n0 j Z a x) b = partE t h j n0 Z t b x := rfl
theorem rebZ_keeps {n0 q nl r : Nat} {fl : Nat → Int} {F : Nat → Nat → E} (h : hasB nl fl r = false ∨ n0 ≤ r) (x : Nat) : rebZ n0 q nl fl F r x = lostZ nl fl F r x := by
  unfold rebZ
  refine solZ_other (fun b hb e => ?_) x
  have h1 := PL_at hb
  have e' : (PL n0 fun k => hasB nl fl (k : Int)).getD b 0 = r := e
  rw [e'] at h1
  rcases h with h | h
  · rw [h] at h1; cases h1.2
  · omega
theorem rebZ_hole {n0 q nl b : Nat} {fl : Nat → Int} {F : Nat → Nat → E} (hb : b < (holeL n0 nl fl).length) (x : Nat) :
    rebZ n0 q nl fl F ((holeL n0 nl fl).getD b 0) x = partE (holeL n0 nl fl).length (fun b => (holeL n0 nl fl).getD b 0) (fun a => (keptPL n0 q nl fl).getD a 0) n0 (lostZ nl fl F) (holeL n0 nl fl).length b x := by
  unfold rebZ
  have hg : hasB nl fl (((holeL n0 nl fl).getD b 0 : Nat) : Int) = true := (PL_at (ok := fun k => hasB nl fl (k : Int)) hb).2
  have := solZ_hole (h := fun b => (holeL n0 nl fl).getD b 0) (S := partE (holeL n0 nl fl).length (fun b => (holeL n0 nl fl).getD b 0) (fun a => (keptPL n0 q nl fl).getD a 0) n0 (lostZ nl fl F) (holeL n0 nl fl).length) (Z := lostZ nl fl F) (k := (holeL n0 nl fl).length) (b := b) (fun a c ha hc e => by
    rcases Nat.lt_trichotomy a c with l | l | l
    · have := PL_lt (n := n0) (ok := fun k => hasB nl fl (k : Int)) l hc
      have e' : (PL n0 fun k => hasB nl fl (k : Int)).getD a 0 = (PL n0 fun k => hasB nl fl (k : Int)).getD c 0 := e
      omega
    · exact l
    · have := PL_lt (n := n0) (ok := fun k => hasB nl fl (k : Int)) l ha
      have e' : (PL n0 fun k => hasB nl fl (k : Int)).getD a 0 = (PL n0 fun k => hasB nl fl (k : Int)).getD c 0 := e
      omega) hb x
  rw [this, lostZ_yes hg, ze_ad]
theorem hole_has {n0 nl t y : Nat} {fl : Nat → Int} (ht : (holeL n0 nl fl).length = t) (hy : y < n0) : hasB t (fun i => (((holeL n0 nl fl).getD i 0 : Nat) : Int)) (y : Int) = hasB nl fl y := by
  cases hG : hasB nl fl (y : Int)
  · refine hasB_false fun r hr => ?_
    rw [beq_eq_false_iff_ne]
    intro e
    have e2 : (PL n0 fun k => hasB nl fl (k : Int)).getD r 0 = y := (Int.ofNat.inj e).symm
    have := (PL_at (n := n0) (ok := fun k => hasB nl fl (k : Int)) (i := r) (by subst ht; exact hr)).2
    rw [e2, hG] at this
    cases this
  · obtain ⟨b, hb, e⟩ := PL_ex (ok := fun k => hasB nl fl (k : Int)) hy hG
    have e2 : (holeL n0 nl fl).getD b 0 = y := e
    have hb2 : b < t := by subst ht; exact hb
    exact hasB_true hb2 (show (y : Int) = (((holeL n0 nl fl).getD b 0 : Nat) : Int) by rw [e2])
end Go.Proofs.Ytfdgacpmdlmjnaa
