/-
  What is free, counted; records that take what is taken, replayed.
-/
import Derived.Test.YtfpbiimjcdbaoaaPlayMath3
namespace Go.Proofs.Ytfpbiimjcdbaoaa
theorem isS_shut (S : Nat → Int) : isS (shut S) 0 = isS S 0 := by
  funext i
  unfold isS shut
  by_cases h : S i = 0
  · simp [h]
  · simp [h]
theorem take_runs (n : Nat) (hn : n ≤ 4096) : ∀ (L : List (Int × Int)) (S' : Nat → Int), Nrm L → (∀ r, r ∈ L → 0 ≤ r.1 ∧ r.2 ≤ (n : Int)) → (∀ i : Nat, memL (i : Int) L → S' i = 0) →
    replayS n S' (L.map fun r => (false, r.1, r.2)) = some fun i : Nat => if memB (i : Int) L then 1 else S' i
  | [], S', _, _, _ => rfl
  | r :: l, S', h, hb, h1 => by
    have hr := hb r (List.mem_cons.2 (Or.inl rfl))
    have hlt := h.1
    have hst : stepR n S' (false, r.1, r.2) = some (putS S' r.1.toNat r.2.toNat 1) := by
      refine step_ok (by unfold rmB; simp; omega) hr.2 ((allS_iff _ _ _ _).2 fun i h2 h3 => ?_)
      exact h1 i ((memL_cons _ _ _).2 (Or.inl ⟨by omega, by omega⟩))
    have ih := take_runs n hn l (putS S' r.1.toNat r.2.toNat 1) h.2.2 (fun s hs => hb s (List.mem_cons.2 (Or.inr hs))) (fun i hi => by
      obtain ⟨s, hs, h2, h3⟩ := hi
      have := h.2.1 s hs
      rw [putS_out _ _ (by omega)]
      exact h1 i ((memL_cons _ _ _).2 (Or.inr ⟨s, hs, h2, h3⟩)))
    show replayS n S' ((false, r.1, r.2) :: l.map fun r => (false, r.1, r.2)) = _
    rw [rep_some hst, ih]
    congr 1
    funext i
    have hc : memB (i : Int) (r :: l) = (decide (r.1 ≤ (i : Int)) && decide ((i : Int) < r.2) || memB (i : Int) l) := rfl
    rw [hc]
    unfold putS
    cases hm : memB (i : Int) l with
    | true => simp
    | false =>
      by_cases h2 : r.1 ≤ (i : Int)
      · by_cases h3 : (i : Int) < r.2
        · rw [if_pos (show r.1.toNat ≤ i ∧ i < r.2.toNat by omega)]
          simp [h2, h3]
        · rw [if_neg (show ¬ (r.1.toNat ≤ i ∧ i < r.2.toNat) by omega)]
          simp [h3]
      · rw [if_neg (show ¬ (r.1.toNat ≤ i ∧ i < r.2.toNat) by omega)]
        simp [h2]
/-- what was condensed, replayed, is the same -/
theorem cond_back (n : Nat) (hn : n ≤ 4096) (S : Nat → Int) (h0 : ∀ i, n ≤ i → S i = 0) : replayS n (fun _ => 0) ((runs (isS (shut S) 1) n).map fun r => (false, r.1, r.2)) = some (shut S) := by
  have hs := runs_spec (isS (shut S) 1) n
  rw [take_runs n hn _ (fun _ => 0) hs.nrm hs.bd (fun _ _ => rfl)]
  congr 1
  funext i
  by_cases hm : memL (i : Int) (runs (isS (shut S) 1) n)
  · rw [(memB_iff _ _).2 hm]
    obtain ⟨j, h1, _, h3⟩ := (hs.mem i).1 hm
    obtain rfl : i = j := by omega
    unfold isS at h3
    simp at h3
    simp [h3]
  · rw [(memB_false _ _).2 hm]
    unfold shut
    by_cases h1 : S i = 0
    · simp [h1]
    · rcases Nat.lt_or_ge i n with c | c
      · exact absurd ((hs.mem i).2 ⟨i, rfl, c, by unfold isS shut; simp [h1]⟩) hm
      · exact absurd (h0 i c) h1
/-- as many as are so -/
theorem szL_runs (S : Nat → Int) (v : Int) (n : Nat) : szL (runs (isS S v) n) = cntS S v n := by
  have hs := runs_spec (isS S v) n
  rw [szL_sum n _ hs.nrm hs.bd]
  have e : ∀ m, m ≤ n → sumB (fun k => memB k (runs (isS S v) n)) m = cntS S v m := by
    intro m
    induction m with
    | zero => intro _; rfl
    | succ m ih =>
      intro hm
      have hb : memB (m : Int) (runs (isS S v) n) = (S m == v) := by
        cases h1 : memB (m : Int) (runs (isS S v) n) with
        | true =>
          obtain ⟨j, h2, _, h3⟩ := (hs.mem m).1 ((memB_iff _ _).1 h1)
          obtain rfl : m = j := by omega
          unfold isS at h3
          exact h3.symm
        | false =>
          cases h2 : (S m == v) with
          | false => rfl
          | true => exact absurd ((hs.mem m).2 ⟨m, rfl, by omega, h2⟩) ((memB_false _ _).1 h1)
      simp only [sumB, cntS, ih (by omega), hb]
  exact e n (Nat.le_refl _)
end Go.Proofs.Ytfpbiimjcdbaoaa
