/-
  comb.ways, with, set, Count, picked: how many picks there are, whether a list is one; the memory stays as it was.
-/
import Derived.Test.YthgbfakmkdifbaaChecked
import Derived.WalkKit
import Derived.Test.YthgbfakmkdifbaaMm
import Derived.Test.YthgbfakmkdifbaaAlg
import Derived.Test.YthgbfakmkdifbaaCombMath
namespace Go.Proofs.Ythgbfakmkdifbaa
open Go.RowKit Go.Deep
theorem cho_quo (n j : Nat) (hn : n ≤ 12) (hj : j < 13) : wrap64 ((wrap64 ((cho n j : Int) * ((n : Int) - j))).tdiv ((j : Int) + 1)) = cho n (j + 1) := by
  have hle := cho_le n (by omega) (j + 1) (by omega)
  by_cases h : j ≤ n
  · have hs := cho_step n (by omega) j hj h
    have h1 : (cho n j : Int) * ((n : Int) - j) = (cho n (j + 1) : Int) * ((j : Int) + 1) := by
      have e : ((n : Int) - j) = ((n - j : Nat) : Int) := by omega
      rw [e, ← Int.natCast_mul, hs]
      simp
    have h2 : cho n (j + 1) * (j + 1) ≤ 924 * 13 := Nat.mul_le_mul hle (by omega)
    have h3 : wrap64 ((cho n (j + 1) : Int) * ((j : Int) + 1)) = (cho n (j + 1) : Int) * ((j : Int) + 1) := Go.IntWalk.wrap64_in _ (by
      have e : (cho n (j + 1) : Int) * ((j : Int) + 1) = ((cho n (j + 1) * (j + 1) : Nat) : Int) := by simp
      rw [e]
      omega)
    rw [h1, h3, Int.mul_tdiv_cancel _ (by omega)]
    exact Go.IntWalk.wrap64_in _ (by omega)
  · rw [cho_few n j (by omega), cho_few n (j + 1) (by omega)]
    simp [wrap64]
set_option maxRecDepth 100000 in
set_option maxHeartbeats 400000 in
theorem ways_any (n k : Nat) (w : World) (hn : n ≤ 12) (hk : k ≤ 12) :
    Calls Try.prog 82 #[.int .i64 n, .int .i64 k] w fun e w' => e = .returned (.int .i64 (cho n k)) ∧ w' = w := by
  go_enter Try.func82, Try.ntmps82
  go_wp2_with fail
  go_loop [5, 8] (fun c i => ∃ j : Nat, j ≤ k ∧ c = .int .i64 (cho n j) ∧ i = .int .i64 j) (fun _ i => k - (intOf i).toNat)
  case atStart => exact ⟨0, Nat.zero_le _, by rw [cho_zero]; rfl, rfl⟩
  case round =>
    obtain ⟨j, hj, rfl, rfl⟩ := hrel
    by_cases hlt : j < k
    · have hq := cho_quo n j hn (by omega)
      go_wp2_with fail
      refine ⟨⟨j + 1, by omega, by rw [hq], by go_num⟩, ?_⟩
      simp [intOf]
      omega
    · have e : j = k := by omega
      subst e
      go_wp2_with fail
      go_ret
      exact ⟨rfl, rfl⟩
set_option maxRecDepth 100000 in
theorem set_any (n : Int) (w : World) : Calls Try.prog 81 #[.int .i64 n] w fun e w' => e = .returned (.bool (decide (0 ≤ n ∧ n ≤ 12))) ∧ w' = w := by
  by_cases h1 : 0 ≤ n
  · by_cases h2 : n ≤ 12
    · have hd : decide (0 ≤ n ∧ n ≤ 12) = true := decide_eq_true ⟨h1, h2⟩
      rw [hd]
      go_enter Try.func81, Try.ntmps81
      go_wp2_with fail
      go_ret
      exact ⟨rfl, rfl⟩
    · have hd : decide (0 ≤ n ∧ n ≤ 12) = false := decide_eq_false fun h => h2 h.2
      rw [hd]
      go_enter Try.func81, Try.ntmps81
      go_wp2_with fail
      go_ret
      exact ⟨rfl, rfl⟩
  · have hd : decide (0 ≤ n ∧ n ≤ 12) = false := decide_eq_false fun h => h1 h.1
    rw [hd]
    go_enter Try.func81, Try.ntmps81
    go_wp2_with fail
    go_ret
    exact ⟨rfl, rfl⟩
/-- may k of n be picked -/
def maysP (n k : Int) : Prop := (0 ≤ n ∧ n ≤ 12) ∧ 0 ≤ k ∧ k ≤ n
instance (n k : Int) : Decidable (maysP n k) := by unfold maysP; infer_instance
def cntE (n k : Int) : Int := if maysP n k then 0 else 2
def cntV (n k : Int) : Int := if maysP n k then (cho n.toNat k.toNat : Int) else 0
set_option maxRecDepth 100000 in
set_option maxHeartbeats 400000 in
theorem Count_any (n k : Int) (w : World) :
    Calls Try.prog 65 #[.int .i64 n, .int .i64 k] w fun e w' => e = .returned (.tuple #[.int .i64 (cntV n k), .int .i64 (cntE n k)]) ∧ w' = w := by
  by_cases h : maysP n k
  · have hv : cntV n k = (cho n.toNat k.toNat : Int) := if_pos h
    have he : cntE n k = 0 := if_pos h
    rw [hv, he]
    obtain ⟨⟨h1, h2⟩, h3, h4⟩ := h
    obtain ⟨a, rfl⟩ := Int.eq_ofNat_of_zero_le h1
    obtain ⟨b, rfl⟩ := Int.eq_ofNat_of_zero_le h3
    have hd : decide (0 ≤ (a : Int) ∧ (a : Int) ≤ 12) = true := decide_eq_true ⟨h1, h2⟩
    go_enter Try.func65, Try.ntmps65
    go_wp2_with (first | (go_at_call 81; refine (set_any _ _).mono ?_; rw [hd]; rintro e w' ⟨rfl, rfl⟩) | (go_at_call 82; refine (ways_any a b _ (by omega) (by omega)).mono ?_; rintro e w' ⟨rfl, rfl⟩))
    go_ret2
    exact ⟨rfl, rfl⟩
  · have hv : cntV n k = 0 := if_neg h
    have he : cntE n k = 2 := if_neg h
    rw [hv, he]
    by_cases hs : 0 ≤ n ∧ n ≤ 12
    · have hd : decide (0 ≤ n ∧ n ≤ 12) = true := decide_eq_true hs
      by_cases hk : 0 ≤ k
      · have hkn : n < k := by
          have : ¬ k ≤ n := fun q => h ⟨hs, hk, q⟩
          omega
        obtain ⟨hs1, hs2⟩ := hs
        clear h
        go_enter Try.func65, Try.ntmps65
        go_wp2_with (first | (go_at_call 81; refine (set_any _ _).mono ?_; rw [hd]; rintro e w' ⟨rfl, rfl⟩))
        go_ret2
        exact ⟨rfl, rfl⟩
      · clear h
        go_enter Try.func65, Try.ntmps65
        go_wp2_with (first | (go_at_call 81; refine (set_any _ _).mono ?_; rw [hd]; rintro e w' ⟨rfl, rfl⟩))
        go_ret2
        exact ⟨rfl, rfl⟩
    · have hd : decide (0 ≤ n ∧ n ≤ 12) = false := decide_eq_false hs
      clear h
      go_enter Try.func65, Try.ntmps65
      go_wp2_with (first | (go_at_call 81; refine (set_any _ _).mono ?_; rw [hd]; rintro e w' ⟨rfl, rfl⟩))
      go_ret2
      exact ⟨rfl, rfl⟩
end Go.Proofs.Ythgbfakmkdifbaa
