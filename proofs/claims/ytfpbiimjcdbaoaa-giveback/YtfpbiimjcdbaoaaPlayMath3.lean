/-
  The log tells all: who replays it has what is free.
-/
import Derived.Test.YtfpbiimjcdbaoaaPlayMath2
namespace Go.Proofs.Ytfpbiimjcdbaoaa
theorem putS_out (S : Nat → Int) {x y i : Nat} (v : Int) (h : ¬ (x ≤ i ∧ i < y)) : putS S x y v i = S i := by unfold putS; rw [if_neg h]
theorem putS_in (S : Nat → Int) {x y i : Nat} (v : Int) (h : x ≤ i ∧ i < y) : putS S x y v i = v := by unfold putS; rw [if_pos h]
theorem shut_put (S : Nat → Int) (x y : Nat) {v : Int} (hv : v ≠ 0) : putS (shut S) x y 1 = shut (putS S x y v) := by
  funext i
  by_cases c : x ≤ i ∧ i < y
  · rw [putS_in _ _ c]
    unfold shut
    rw [putS_in _ _ c, if_neg hv]
  · rw [putS_out _ _ c]
    unfold shut
    rw [putS_out _ _ c]
theorem shut_give (S : Nat → Int) (x y : Nat) {v : Int} (hv : v ≠ 0) (h : ∀ i, x ≤ i → i < y → S i = 1) : shut S = shut (putS S x y v) := by
  funext i
  unfold shut
  by_cases c : x ≤ i ∧ i < y
  · rw [putS_in _ _ c, if_neg hv, h i c.1 c.2]
    rfl
  · rw [putS_out _ _ c]
theorem free_runs (n : Nat) (hn : n ≤ 4096) : ∀ (L : List (Int × Int)) (S' : Nat → Int), Nrm L → (∀ r, r ∈ L → 0 ≤ r.1 ∧ r.2 ≤ (n : Int)) → (∀ i : Nat, memL (i : Int) L → S' i = 1) →
    replayS n S' (L.map fun r => (true, r.1, r.2)) = some fun i : Nat => if memB (i : Int) L then 0 else S' i
  | [], S', _, _, _ => rfl
  | r :: l, S', h, hb, h1 => by
    have hr := hb r (List.mem_cons.2 (Or.inl rfl))
    have hlt := h.1
    have hst : stepR n S' (true, r.1, r.2) = some (putS S' r.1.toNat r.2.toNat 0) := by
      refine step_ok (by unfold rmB; simp; omega) hr.2 ((allS_iff _ _ _ _).2 fun i h2 h3 => ?_)
      exact h1 i ((memL_cons _ _ _).2 (Or.inl ⟨by omega, by omega⟩))
    have ih := free_runs n hn l (putS S' r.1.toNat r.2.toNat 0) h.2.2 (fun s hs => hb s (List.mem_cons.2 (Or.inr hs))) (fun i hi => by
      obtain ⟨s, hs, h2, h3⟩ := hi
      have := h.2.1 s hs
      unfold putS
      rw [if_neg (by omega)]
      exact h1 i ((memL_cons _ _ _).2 (Or.inr ⟨s, hs, h2, h3⟩)))
    show replayS n S' ((true, r.1, r.2) :: l.map fun r => (true, r.1, r.2)) = _
    rw [rep_some hst, ih]
    congr 1
    funext i
    have hc : memB (i : Int) (r :: l) = (decide (r.1 ≤ (i : Int)) && decide ((i : Int) < r.2) || memB (i : Int) l) := rfl
    rw [hc]
    unfold putS
    cases hm : memB (i : Int) l with
    | true => simp
    | false =>
      by_cases h2 : r.1 ≤ (i : Int)
      · by_cases h3 : (i : Int) < r.2
        · rw [if_pos (show r.1.toNat ≤ i ∧ i < r.2.toNat by omega)]
          simp [h2, h3]
        · rw [if_neg (show ¬ (r.1.toNat ≤ i ∧ i < r.2.toNat) by omega)]
          simp [h3]
      · rw [if_neg (show ¬ (r.1.toNat ≤ i ∧ i < r.2.toNat) by omega)]
        simp [h2]
/-- one deed's records, replayed -/
theorem log_do (n : Nat) (hn : n ≤ 4096) (S : Nat → Int) (_h4 : In4 n S) (h0 : ∀ i, n ≤ i → S i = 0) (d : Int × Int × Int) : replayS n (shut S) (doS n S d).recs = some (shut (doS n S d).st) ∧ ∀ i, n ≤ i → (doS n S d).st i = 0 := by
  unfold doS
  split
  · unfold takeR
    split
    · rename_i hc
      split
      · rename_i x hx
        obtain ⟨h1, h2, h3⟩ := fst_runs hc.1 hx
        refine ⟨?_, fun i hi => (putS_out S 1 (by omega)).trans (h0 i hi)⟩
        have hst : stepR n (shut S) (false, x, x + d.2.2) = some (putS (shut S) x.toNat (x + d.2.2).toNat 1) := by
          refine step_ok (by unfold rmB; simp; omega) h2 ((allS_iff _ _ _ _).2 fun i h4 h5 => ?_)
          have := h3 i (by omega) (by omega)
          unfold isS at this
          unfold shut
          rw [if_pos (by simpa using this)]
          rfl
        rw [rep_some hst]
        exact congrArg some (shut_put S _ _ (by decide))
      · exact ⟨rfl, h0⟩
    · exact ⟨rfl, h0⟩
  · split
    · unfold giveR
      split
      · rename_i hc
        split
        · rename_i ha
          have ha2 := (allS_iff _ _ _ _).1 ha
          exact ⟨congrArg some (shut_give S _ _ (by decide) ha2), fun i hi => (putS_out S 2 (by omega)).trans (h0 i hi)⟩
        · exact ⟨rfl, h0⟩
      · exact ⟨rfl, h0⟩
    · split
      · have hs := runs_spec (isS S 3) n
        refine ⟨?_, fun i hi => by show comS S i = 0; unfold comS; rw [h0 i hi]; simp⟩
        show replayS n (shut S) ((runs (isS S 3) n).map fun r => (true, r.1, r.2)) = some (shut (comS S))
        rw [free_runs n hn _ (shut S) hs.nrm hs.bd (fun i hi => by
          obtain ⟨j, h1, _, h3⟩ := (hs.mem i).1 hi
          obtain rfl : i = j := by omega
          unfold isS at h3
          unfold shut
          rw [show S i = 3 by simpa using h3]
          rfl)]
        congr 1
        funext i
        by_cases hm : memL (i : Int) (runs (isS S 3) n)
        · rw [(memB_iff _ _).2 hm]
          obtain ⟨j, h1, _, h3⟩ := (hs.mem i).1 hm
          obtain rfl : i = j := by omega
          unfold isS at h3
          unfold shut comS
          simp at h3
          simp [h3]
        · rw [(memB_false _ _).2 hm]
          have hne : S i ≠ 3 := fun e => by
            rcases Nat.lt_or_ge i n with c | c
            · exact hm ((hs.mem i).2 ⟨i, rfl, c, by unfold isS; simp [e]⟩)
            · have := h0 i c
              omega
          unfold shut comS
          simp only [Bool.false_eq_true, if_false, if_neg hne]
          by_cases h2 : S i = 2
          · simp [h2]
          · simp [h2]
      · exact ⟨rfl, h0⟩
/-- the whole log, replayed -/
theorem log_all (n : Nat) (hn : n ≤ 4096) : ∀ (D : List (Int × Int × Int)) (S : Nat → Int), In4 n S → (∀ i, n ≤ i → S i = 0) → replayS n (shut S) (playL n S D).2 = some (shut (playE n S D)) ∧ ∀ i, n ≤ i → playE n S D i = 0
  | [], S, _, h0 => ⟨rfl, h0⟩
  | d :: l, S, h4, h0 => by
    obtain ⟨h1, h2⟩ := log_do n hn S h4 h0 d
    obtain ⟨h3, h5⟩ := log_all n hn l (doS n S d).st (h4.do d) h2
    refine ⟨?_, h5⟩
    show replayS n (shut S) ((doS n S d).recs ++ (playL n (doS n S d).st l).2) = _
    rw [replay_append, h1]
    exact h3
end Go.Proofs.Ytfpbiimjcdbaoaa
