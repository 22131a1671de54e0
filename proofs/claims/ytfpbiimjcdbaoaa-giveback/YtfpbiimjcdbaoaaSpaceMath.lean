/-
  Units and what they are: stretches of units that are alike, records replayed.
-/
import Derived.Test.YtfpbiimjcdbaoaaSpanMath
import Derived.Test.YtfpbiimjcdbaoaaSpanNum
import Derived.Test.YtfpbiimjcdbaoaaRefSMay
namespace Go.Proofs.Ytfpbiimjcdbaoaa
/-- the last range goes on to y -/
def bump : List (Int × Int) → Int → List (Int × Int)
  | [], _ => []
  | [r], y => [(r.1, y)]
  | r :: s :: l, y => r :: bump (s :: l) y
theorem bump_snoc (M : List (Int × Int)) (a x y : Int) : bump (M ++ [(a, x)]) y = M ++ [(a, y)] := by
  induction M with
  | nil => rfl
  | cons r l ih =>
    cases l with
    | nil => rfl
    | cons s l' =>
      show r :: bump ((s :: l') ++ [(a, x)]) y = _
      rw [ih]
      rfl
/-- is the one ahead of n so? -/
def lastB (p : Nat → Bool) : Nat → Bool
  | 0 => false
  | n + 1 => p n
/-- the ranges of those below n that are so -/
def runs (p : Nat → Bool) : Nat → List (Int × Int)
  | 0 => []
  | n + 1 => if p n then (if lastB p n then bump (runs p n) ((n : Int) + 1) else runs p n ++ [((n : Int), (n : Int) + 1)]) else runs p n
structure RunI (p : Nat → Bool) (n : Nat) (L : List (Int × Int)) : Prop where
  nrm : Nrm L
  bd : ∀ r, r ∈ L → 0 ≤ r.1 ∧ r.2 ≤ (n : Int)
  mem : ∀ k, memL k L ↔ ∃ i : Nat, k = (i : Int) ∧ i < n ∧ p i = true
  last : lastB p n = true → ∃ M a, L = M ++ [(a, (n : Int))]
  gap : lastB p n = false → ∀ r, r ∈ L → r.2 < (n : Int)
theorem runs_spec (p : Nat → Bool) : ∀ n, RunI p n (runs p n)
  | 0 => ⟨trivial, fun r hr => by simp [runs] at hr, fun k => ⟨fun h => absurd h (memL_nil k), fun ⟨i, _, hi, _⟩ => by omega⟩, fun h => (by cases h), fun _ r hr => by simp [runs] at hr⟩
  | n + 1 => by
    have ih := runs_spec p n
    cases hp : p n with
    | false =>
      have e : runs p (n + 1) = runs p n := by simp [runs, hp]
      rw [e]
      refine ⟨ih.nrm, fun r hr => by have := ih.bd r hr; omega, fun k => ?_, fun h => (by rw [show lastB p (n + 1) = p n from rfl, hp] at h; cases h), fun _ r hr => by have := ih.bd r hr; omega⟩
      rw [ih.mem]
      constructor
      · rintro ⟨i, h1, h2, h3⟩
        exact ⟨i, h1, by omega, h3⟩
      · rintro ⟨i, h1, h2, h3⟩
        refine ⟨i, h1, ?_, h3⟩
        rcases Nat.lt_or_ge i n with c | c
        · exact c
        · obtain rfl : i = n := by omega
          rw [hp] at h3; cases h3
    | true =>
      have hmem : ∀ k, (memL k (runs p n) ∨ k = (n : Int)) ↔ ∃ i : Nat, k = (i : Int) ∧ i < n + 1 ∧ p i = true := fun k => by
        rw [ih.mem]
        constructor
        · rintro (⟨i, h1, h2, h3⟩ | h1)
          · exact ⟨i, h1, by omega, h3⟩
          · exact ⟨n, h1, by omega, hp⟩
        · rintro ⟨i, h1, h2, h3⟩
          rcases Nat.lt_or_ge i n with c | c
          · exact Or.inl ⟨i, h1, c, h3⟩
          · exact Or.inr (by omega)
      cases hl : lastB p n with
      | true =>
        obtain ⟨M, a, e⟩ := ih.last hl
        have e2 : runs p (n + 1) = M ++ [(a, (n : Int) + 1)] := by
          simp only [runs, hp, hl, if_true]
          rw [e, bump_snoc]
        have hn := ih.nrm
        have hb := ih.bd
        rw [e] at hn hb hmem
        rw [Nrm_snoc] at hn
        simp only at hn
        rw [e2]
        refine ⟨?_, fun r hr => ?_, fun k => ?_, fun _ => ⟨M, a, by rw [show ((n + 1 : Nat) : Int) = (n : Int) + 1 by omega]⟩, fun h => by rw [show lastB p (n + 1) = p n from rfl, hp] at h; cases h⟩
        · rw [Nrm_snoc]
          exact ⟨hn.1, by show a < (n : Int) + 1; omega, hn.2.2⟩
        · rcases List.mem_append.1 hr with q | q
          · have := hb r (List.mem_append.2 (Or.inl q)); omega
          · rw [List.mem_singleton] at q
            subst q
            have := hb (a, (n : Int)) (by simp)
            simp only at this ⊢
            omega
        · rw [← hmem, memL_snoc, memL_snoc]
          simp only
          have := hn.2.1
          constructor
          · rintro (q | q)
            · exact Or.inl (Or.inl q)
            · by_cases c : k < (n : Int)
              · exact Or.inl (Or.inr ⟨q.1, c⟩)
              · exact Or.inr (by omega)
          · rintro ((q | q) | q)
            · exact Or.inl q
            · exact Or.inr ⟨q.1, by omega⟩
            · exact Or.inr ⟨by omega, by omega⟩
      | false =>
        have e2 : runs p (n + 1) = runs p n ++ [((n : Int), (n : Int) + 1)] := by simp [runs, hp, hl]
        have hg := ih.gap hl
        rw [e2]
        refine ⟨?_, fun r hr => ?_, fun k => ?_, fun _ => ⟨_, _, by rw [show ((n + 1 : Nat) : Int) = (n : Int) + 1 by omega]⟩, fun h => by rw [show lastB p (n + 1) = p n from rfl, hp] at h; cases h⟩
        · rw [Nrm_snoc]
          exact ⟨ih.nrm, by show (n : Int) < (n : Int) + 1; omega, hg⟩
        · rcases List.mem_append.1 hr with q | q
          · have := ih.bd r q; omega
          · rw [List.mem_singleton] at q
            subst q
            simp only
            omega
        · rw [← hmem, memL_snoc]
          simp only
          constructor
          · rintro (q | q)
            · exact Or.inl q
            · exact Or.inr (by omega)
          · rintro (q | q)
            · exact Or.inl q
            · exact Or.inr (by omega)
theorem few_runs (B : Int) : ∀ (L : List (Int × Int)) (m : Int), Nrm L → m ≤ B + 1 → (∀ r, r ∈ L → m ≤ r.1 ∧ r.2 ≤ B) → 2 * (L.length : Int) ≤ B - m + 1
  | [], m, _, hm, _ => by
    simp only [List.length_nil]
    omega
  | r :: l, m, h, hm, hb => by
    have h1 := hb r (List.mem_cons.2 (Or.inl rfl))
    have h2 := h.1
    have := few_runs B l (r.2 + 1) h.2.2 (by omega) fun s hs => ⟨by have := h.2.1 s hs; omega, (hb s (List.mem_cons.2 (Or.inr hs))).2⟩
    simp only [List.length_cons]
    omega
theorem runs_len (p : Nat → Bool) (n : Nat) : 2 * (runs p n).length ≤ n + 1 := by
  have := few_runs n (runs p n) 0 (runs_spec p n).nrm (by omega) (runs_spec p n).bd
  omega
/-- units from x on, below y, become v -/
def putS (S : Nat → Int) (x y : Nat) (v : Int) : Nat → Int := fun i => if x ≤ i ∧ i < y then v else S i
/-- are they all v? -/
def allS (S : Nat → Int) (x y : Nat) (v : Int) : Bool := (List.range (y - x)).all fun j => S (x + j) == v
theorem allS_iff (S : Nat → Int) (x y : Nat) (v : Int) : allS S x y v = true ↔ ∀ i, x ≤ i → i < y → S i = v := by
  unfold allS
  rw [List.all_eq_true]
  constructor
  · intro h i h1 h2
    have := h (i - x) (List.mem_range.2 (by omega))
    rw [show x + (i - x) = i by omega] at this
    simpa using this
  · intro h j hj
    have := List.mem_range.1 hj
    simpa using h (x + j) (by omega) (by omega)
/-- how many are v -/
def cntS (S : Nat → Int) (v : Int) : Nat → Int
  | 0 => 0
  | n + 1 => cntS S v n + oneB (S n == v)
theorem cntS_bd (S : Nat → Int) (v : Int) (n : Nat) : 0 ≤ cntS S v n ∧ cntS S v n ≤ n := by
  induction n with
  | zero => simp [cntS]
  | succ n ih =>
    have : 0 ≤ oneB (S n == v) ∧ oneB (S n == v) ≤ 1 := by cases (S n == v) <;> decide
    simp only [cntS]
    omega
/-- one record -/
def stepR (n : Nat) (S : Nat → Int) (r : Bool × Int × Int) : Option (Nat → Int) :=
  if rmB r.2.1 r.2.2 && decide (r.2.2 ≤ (n : Int)) && allS S r.2.1.toNat r.2.2.toNat (if r.1 then 1 else 0) then some (putS S r.2.1.toNat r.2.2.toNat (if r.1 then 0 else 1)) else none
def replayS (n : Nat) : (Nat → Int) → List (Bool × Int × Int) → Option (Nat → Int)
  | S, [] => some S
  | S, r :: l => (stepR n S r).bind fun S' => replayS n S' l
end Go.Proofs.Ytfpbiimjcdbaoaa
