/-
  Lists of places that ascend: what is told of them; when Rebuild can be done.
-/
import Derived.Test.YthgbfakmkdifbaaKeepTorn
import Derived.Test.YthgbfakmkdifbaaRbs
import Derived.Test.YthgbfakmkdifbaaKeepSev
namespace Go.Proofs.Ythgbfakmkdifbaa
open Go.RowKit Go.Deep E
/-- the numbers of a list of places -/
def pf (n : Nat) (has : Nat → Bool) (i : Nat) : Int := (((PL n has).getD i 0 : Nat) : Int)
theorem has_pf {n : Nat} {has : Nat → Bool} {k : Nat} (hk : k < n) : hasB (PL n has).length (pf n has) k = has k := by
  cases h : has k
  · refine hasB_false fun i hi => ?_
    rw [beq_eq_false_iff_ne]
    intro e
    have h1 := (PL_at hi).2
    have h2 : k = (PL n has).getD i 0 := by unfold pf at e; omega
    rw [← h2, h] at h1
    cases h1
  · obtain ⟨i, hi, e⟩ := PL_ex hk h
    exact hasB_true hi (by unfold pf; rw [e])
theorem dup_pf (n : Nat) (has : Nat → Bool) : dupB (PL n has).length (pf n has) = false := by
  refine dupB_false fun i hi => hasB_false fun j hj => ?_
  rw [beq_eq_false_iff_ne]
  have := PL_lt hj hi
  unfold pf
  omega
theorem out_pf (n : Nat) (has : Nat → Bool) : outB n (PL n has).length (pf n has) = false := by
  refine outB_false fun i hi => ?_
  have := (PL_at hi).1
  unfold pf
  omega
theorem kept_pf {n m : Nat} {has : Nat → Bool} {L : Nat → Nat} (hm : m ≤ 4096) (h : ∀ r, r < n → has r = false → L r = m) : keptAlike n L (PL n has).length (pf n has) = true := by
  have at' : ∀ i, i < (KL n fun k => hasB (PL n has).length (pf n has) k).length → L ((KL n fun k => hasB (PL n has).length (pf n has) k).getD i 0) = m := fun i hi => by
    have h1 := KL_at hi
    refine h _ h1.1 ?_
    rw [has_pf h1.1] at h1
    exact h1.2
  unfold keptAlike
  refine alikeB_true fun i hi => ?_
  unfold colB
  have e1 := at' i hi
  have e2 := at' 0 (by omega)
  simp only [e1, e2, decide_true, Bool.true_and]
  exact decide_eq_true hm
theorem rebE_pf {N q m : Nat} {has : Nat → Bool} {L : Nat → Nat} (hN : 1 ≤ N ∧ N ≤ 12) (hq : 1 ≤ q ∧ q ≤ 3) (hm : m ≤ 4096) (h : ∀ r, r < N + q → has r = false → L r = m) :
    rebE (N + q) L q (PL (N + q) has).length (pf (N + q) has) = if q < (PL (N + q) has).length then 12 else 0 := by
  unfold rebE
  rw [fromTo_true (by omega), fromTo_true (by omega), kept_pf hm h, out_pf, dup_pf]
  simp only [Bool.and_self, if_true, Bool.false_eq_true, if_false]
  by_cases e : q < (PL (N + q) has).length
  · rw [if_pos e, if_pos (by omega)]
  · rw [if_neg e, if_neg (by omega)]
theorem size_pf {N q m : Nat} {has : Nat → Bool} {L : Nat → Nat} (hN : 1 ≤ N) (hle : (PL (N + q) has).length ≤ q) (h : ∀ r, r < N + q → has r = false → L r = m) : sizeOfKept (N + q) L (PL (N + q) has).length (pf (N + q) has) = m := by
  have h1 := split_len (N + q) fun k => hasB (PL (N + q) has).length (pf (N + q) has) k
  have h2 := gone_len (N + q) (PL (N + q) has).length (pf (N + q) has)
  have h3 := KL_at (n := N + q) (g := fun k => hasB (PL (N + q) has).length (pf (N + q) has) k) (i := 0) (by omega)
  unfold sizeOfKept
  refine h _ h3.1 ?_
  rw [has_pf h3.1] at h3
  exact h3.2
theorem holes_pf {N q : Nat} {has : Nat → Bool} (hle : (PL (N + q) has).length ≤ q) : (holeL N (PL (N + q) has).length (pf (N + q) has)).length ≤ (keptPL N q (PL (N + q) has).length (pf (N + q) has)).length := by
  have h1 := PL_add N q fun k => hasB (PL (N + q) has).length (pf (N + q) has) k
  have h2 : (PL q fun k => hasB (PL (N + q) has).length (pf (N + q) has) ((N + k : Nat) : Int)) = lostPL N q (PL (N + q) has).length (pf (N + q) has) := by unfold lostPL; congr 1
  rw [h2] at h1
  have h3 := gone_len (N + q) (PL (N + q) has).length (pf (N + q) has)
  have h4 : (lostPL N q (PL (N + q) has).length (pf (N + q) has)).length + (keptPL N q (PL (N + q) has).length (pf (N + q) has)).length = q := split_len q fun j => hasB (PL (N + q) has).length (pf (N + q) has) ((N : Int) + (j : Int))
  have h5 : (PL N fun k => hasB (PL (N + q) has).length (pf (N + q) has) (k : Int)).length = (holeL N (PL (N + q) has).length (pf (N + q) has)).length := rfl
  omega
end Go.Proofs.Ythgbfakmkdifbaa
