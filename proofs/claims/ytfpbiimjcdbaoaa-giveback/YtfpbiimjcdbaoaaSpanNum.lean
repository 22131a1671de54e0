/-
  How many numbers a list of ranges has: counted one by one.
-/
import Derived.Test.YtfpbiimjcdbaoaaSpanMath
namespace Go.Proofs.Ytfpbiimjcdbaoaa
/-- of the numbers below n those that are so -/
def oneB (b : Bool) : Int := if b then 1 else 0
def sumB (p : Int → Bool) : Nat → Int
  | 0 => 0
  | n + 1 => sumB p n + oneB (p n)
theorem sumB_congr {p q : Int → Bool} (h : ∀ k, p k = q k) (n : Nat) : sumB p n = sumB q n := by
  induction n with
  | zero => rfl
  | succ n ih => simp only [sumB, ih, h]
theorem sumB_add {p q r : Int → Bool} (h : ∀ k, oneB (r k) = oneB (p k) + oneB (q k)) (n : Nat) : sumB r n = sumB p n + sumB q n := by
  induction n with
  | zero => rfl
  | succ n ih => simp only [sumB, ih, h]; omega
theorem sumB_none {p : Int → Bool} (h : ∀ k, p k = false) (n : Nat) : sumB p n = 0 := by
  induction n with
  | zero => rfl
  | succ n ih => simp only [sumB, ih, h]; rfl
theorem sumB_rng (x y : Int) (hx : 0 ≤ x) (hy : x ≤ y) (n : Nat) : sumB (fun k => decide (x ≤ k) && decide (k < y)) n = if (n : Int) ≤ x then 0 else if (n : Int) ≤ y then (n : Int) - x else y - x := by
  induction n with
  | zero => simp only [sumB]; rw [if_pos (by omega)]
  | succ n ih =>
    show sumB _ n + oneB (decide (x ≤ (n : Int)) && decide ((n : Int) < y)) = _
    rw [ih]
    by_cases h1 : x ≤ (n : Int)
    · by_cases h2 : (n : Int) < y
      · rw [decide_eq_true h1, decide_eq_true h2, if_neg (show ¬ ((n + 1 : Nat) : Int) ≤ x by omega), if_pos (show ((n + 1 : Nat) : Int) ≤ y by omega), show oneB (true && true) = 1 from rfl]
        by_cases h3 : (n : Int) ≤ x
        · rw [if_pos h3]; omega
        · rw [if_neg h3, if_pos (by omega)]; omega
      · rw [decide_eq_false h2, Bool.and_false, show oneB false = 0 from rfl, if_neg (show ¬ ((n + 1 : Nat) : Int) ≤ y by omega)]
        by_cases h3 : (n : Int) ≤ x
        · rw [if_pos h3]
          by_cases h4 : ((n + 1 : Nat) : Int) ≤ x
          · rw [if_pos h4]; omega
          · rw [if_neg h4]; omega
        · rw [if_neg h3, if_neg (show ¬ ((n + 1 : Nat) : Int) ≤ x by omega)]
          by_cases h4 : (n : Int) ≤ y
          · rw [if_pos h4]; omega
          · rw [if_neg h4]; omega
    · rw [decide_eq_false h1, Bool.false_and, show oneB false = 0 from rfl, if_pos (show (n : Int) ≤ x by omega), if_pos (show ((n + 1 : Nat) : Int) ≤ x by omega)]
      omega
theorem szL_sum (n : Nat) : ∀ (L : List (Int × Int)), Nrm L → (∀ r, r ∈ L → 0 ≤ r.1 ∧ r.2 ≤ n) → szL L = sumB (fun k => memB k L) n
  | [], _, _ => (sumB_none (p := fun k => memB k []) (fun _ => rfl) n).symm
  | r :: l, h, hb => by
    have h1 := hb r (List.mem_cons.2 (Or.inl rfl))
    have h2 := h.1
    have ih := szL_sum n l h.2.2 fun s hs => hb s (List.mem_cons.2 (Or.inr hs))
    have e : sumB (fun k => memB k (r :: l)) n = sumB (fun k => decide (r.1 ≤ k) && decide (k < r.2)) n + sumB (fun k => memB k l) n := by
      refine sumB_add (fun k => ?_) n
      have hc : memB k (r :: l) = (decide (r.1 ≤ k) && decide (k < r.2) || memB k l) := rfl
      rw [hc]
      cases hd : (decide (r.1 ≤ k) && decide (k < r.2)) with
      | false => simp [oneB]
      | true =>
        have hl : memB k l = false := (memB_false k l).2 fun ⟨s, hs, h3, h4⟩ => by
          have := h.2.1 s hs
          simp at hd
          omega
        rw [hl]
        rfl
    show (r.2 - r.1) + szL l = _
    rw [e, ih, sumB_rng r.1 r.2 h1.1 (by omega), if_neg (by omega)]
    by_cases h5 : (n : Int) ≤ r.2
    · rw [if_pos h5]; omega
    · rw [if_neg h5]
end Go.Proofs.Ytfpbiimjcdbaoaa
