/-
  What a block costs is a multiple of parity and one, that no block is less than; data cost what they are, at least, and no less than a block that is smaller; no condition.
-/
import Derived.Test.YtbjbalflicadjabRows
import Derived.WalkKit
import Derived.ProofKit
import Derived.OpenShut
import Derived.ChangeOld
import Derived.Below
import Derived.BigQuiet
import Derived.Deep.CutRange
import Derived.Deep.QuietTactic
import Derived.Deep.RegionLaw
import Derived.Test.YtbjbalflicadjabOpn
import Derived.Test.YtbjbalflicadjabChecked
import Derived.Test.YtbjbalflicadjabGeoFn
import Derived.Test.YtbjbalflicadjabGeoShp
namespace Go.Proofs.Ytbjbalflicadjab.costRight
open Go.ChangeShapes Go.WideShapes Go.ChangeAt Go.RowKit Go.Deep E
set_option linter.unusedVariables false
def costB (d p c : Nat) : Bool := !(decide (2 ≤ d) && decide (1 ≤ p) && decide (p < d) && decide (1 ≤ c)) || (decide (costN d p 1 = p + 1) && decide (costN d p c % (p + 1) = 0) && decide (c + p ≤ costN d p c) && decide (costN d p c ≤ costN d p (c + 1)) && decide (costN d p c ≤ 400) && decide (costN d p (c + 1) ≤ 400))
theorem cost_right (d p c : Nat) (h1 : 2 ≤ d) (h2 : d ≤ 8) (h3 : 1 ≤ p) (h4 : p ≤ 3) (h5 : p < d) (h6 : 1 ≤ c) (h7 : c ≤ 31) : costN d p 1 = p + 1 ∧ costN d p c % (p + 1) = 0 ∧ c + p ≤ costN d p c ∧ costN d p c ≤ costN d p (c + 1) ∧ costN d p c ≤ 400 ∧ costN d p (c + 1) ≤ 400 := by
  have h : ∀ d, d < 9 → ∀ p, p < 4 → ∀ c, c < 32 → costB d p c = true := by decide +kernel
  have g := h d (by omega) p (by omega) c (by omega)
  unfold costB at g
  simp only [h1, h3, h5, h6, decide_true, Bool.and_self, Bool.not_true, Bool.false_or, Bool.and_eq_true, decide_eq_true_eq, and_assoc] at g
  exact g
theorem cost_nat (d p c : Nat) (h1 : 2 ≤ d) (h2 : d ≤ 8) (h3 : 1 ≤ p) (h4 : p ≤ 3) (h5 : p < d) (h6 : 1 ≤ c) (h7 : c ≤ 32) (w : World) :
    Calls Try.prog 6 #[.int .i64 d, .int .i64 p, .int .i64 c] w fun e w' => e = .returned (.tuple #[.int .i64 (costN d p c : Nat), .int .i64 0]) ∧ Ext w w' := by
  refine (GeCost_any d p c w).mono ?_
  rintro e w' ⟨rfl, hx⟩
  have h : (okD d && okPar d p && okCnt c) = true := by
    have a1 := (okD_iff (d : Int)).2 ⟨by omega, by omega⟩
    have a2 := (okPar_iff (d : Int) p).2 ⟨by omega, by omega, by omega⟩
    have a3 := (okCnt_iff (c : Int)).2 ⟨by omega, by omega⟩
    rw [a1, a2, a3]; rfl
  refine ⟨ret_two ?_ ?_, hx⟩
  · unfold costV
    rw [h]
    simp
  · unfold costE
    rw [h]
    simp
set_option maxRecDepth 100000 in
set_option maxHeartbeats 4000000 in
theorem walk (a0 : Int) (a1 : Int) (a2 : Int) (w : World) (w0 : -9223372036854775808 ≤ a0 ∧ a0 ≤ 9223372036854775807) (w1 : -9223372036854775808 ≤ a1 ∧ a1 ≤ 9223372036854775807) (w2 : -9223372036854775808 ≤ a2 ∧ a2 ≤ 9223372036854775807) :
    Calls Try.prog 3 #[.int .i64 a0, .int .i64 a1, .int .i64 a2] w fun e w' => e = .returned (.bool true) ∧ Ext w w' := by
  obtain ⟨D, P, hD1, hD2, hP1, hP2, hP3, HS⟩ := Shape_nat a0 a1 (by omega) (by omega)
  obtain ⟨C, hC, hC1⟩ := picked_is a2 31 (by omega)
  obtain ⟨m1, m2, m3, m4, m5, m6⟩ := cost_right D P (1 + C) hD1 hD2 hP1 hP2 hP3 (by omega) (by omega)
  have K1 : Hid (∀ w, Calls Try.prog 6 #[.int .i64 D, .int .i64 P, .int .i64 (1 + (C : Int))] w fun e w' => e = .returned (.tuple #[.int .i64 (costN D P (1 + C) : Nat), .int .i64 0]) ∧ Ext w w') := fun w => by
    have := cost_nat D P (1 + C) hD1 hD2 hP1 hP2 hP3 (by omega) (by omega) w
    rw [show ((1 + C : Nat) : Int) = 1 + (C : Int) by omega] at this
    exact this
  have K2 : Hid (∀ w, Calls Try.prog 6 #[.int .i64 D, .int .i64 P, .int .i64 (1 + (C : Int) + 1)] w fun e w' => e = .returned (.tuple #[.int .i64 (costN D P (1 + C + 1) : Nat), .int .i64 0]) ∧ Ext w w') := fun w => by
    have := cost_nat D P (1 + C + 1) hD1 hD2 hP1 hP2 hP3 (by omega) (by omega) w
    rw [show ((1 + C + 1 : Nat) : Int) = 1 + (C : Int) + 1 by omega] at this
    exact this
  have K3 : Hid (∀ w, Calls Try.prog 6 #[.int .i64 D, .int .i64 P, .int .i64 1] w fun e w' => e = .returned (.tuple #[.int .i64 (P + 1 : Nat), .int .i64 0]) ∧ Ext w w') := fun w => by
    have := cost_nat D P 1 hD1 hD2 hP1 hP2 hP3 (by omega) (by omega) w
    rw [m1] at this
    exact this
  have HP : Hid (Calls Try.prog 5 #[.int .i64 a2, .int .i64 31] w fun e w' => e = .returned (.int .i64 C) ∧ w' = w) := Picked_bd a2 31 C w (by omega) (by omega) (by omega) hC
  clear m1 hC
  generalize costN D P (1 + C) = X at *
  generalize costN D P (1 + C + 1) = Y at *
  have hz : ((P : Int) + 1 == 0) = false := by rw [beq_eq_false_iff_ne]; omega
  have hr : (X : Int).tmod ((P : Int) + 1) = 0 := by
    rw [Int.tmod_eq_emod_of_nonneg (by omega)]
    have : ((X % (P + 1) : Nat) : Int) = 0 := by rw [m2]; rfl
    exact this
  have hr1 : ((X : Int).tmod ((P : Int) + 1) == 0) = true := by rw [hr]; rfl
  have hr2 : ((X : Int) % ((P : Int) + 1) == 0) = true := by rw [← Int.tmod_eq_emod_of_nonneg (by omega), hr]; rfl
  clear m2 hr
  go_enter Try.func3, Try.ntmps3
  go_wp2_with fail
  refine (HS w).mono ?_
  rintro e w1 ⟨rfl, rfl⟩
  clear HS
  go_wp2_with fail
  refine HP.out.mono ?_
  rintro e w1 ⟨rfl, rfl⟩
  go_wp2_with fail
  refine (K1.out _).mono ?_
  rintro e w2 ⟨rfl, hx1⟩
  go_wp2_with fail
  refine (K2.out _).mono ?_
  rintro e w3 ⟨rfl, hx2⟩
  go_wp2_with fail
  refine (K3.out _).mono ?_
  rintro e w4 ⟨rfl, hx3⟩
  go_wp2_with fail
  go_ret
  exact ⟨rfl, (hx1.trans hx2).trans hx3⟩
end Go.Proofs.Ytbjbalflicadjab.costRight
