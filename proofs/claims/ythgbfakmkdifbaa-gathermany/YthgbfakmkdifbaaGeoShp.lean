/-
  quicksetkeep.Shape: drives and parity that may be.
-/
import Derived.Test.YthgbfakmkdifbaaChecked
import Derived.WalkKit
import Derived.BigQuiet
import Derived.Test.YthgbfakmkdifbaaKeeps
import Derived.Test.YthgbfakmkdifbaaGeos
namespace Go.Proofs.Ythgbfakmkdifbaa
open Go.RowKit
set_option maxRecDepth 100000 in
theorem Shape_nat (d p : Int) (hd : -9223372036854775808 ≤ d ∧ d ≤ 9223372036854775807) (hp : -9223372036854775808 ≤ p ∧ p ≤ 9223372036854775807) :
    ∃ D P : Nat, 2 ≤ D ∧ D ≤ 8 ∧ 1 ≤ P ∧ P ≤ 3 ∧ P < D ∧ ∀ w, Calls Try.prog 12 #[.int .i64 d, .int .i64 p] w fun e w' => e = .returned (.tuple #[.int .i64 (D : Nat), .int .i64 (P : Nat)]) ∧ w' = w := by
  obtain ⟨D, hD, hD1⟩ := picked_is d 7 (by omega)
  obtain ⟨M, hM⟩ : ∃ M : Nat, M = min 3 (D + 1) := ⟨_, rfl⟩
  obtain ⟨P, hP, hP1⟩ := picked_is p (M : Int) (by omega)
  refine ⟨2 + D, 1 + P, by omega, by omega, by omega, by omega, by omega, fun w => ?_⟩
  have H1 : Hid (Calls Try.prog 13 #[.int .i64 d, .int .i64 7] w fun e w' => e = .returned (.int .i64 D) ∧ w' = w) := Picked_bd d 7 D w (by omega) (by omega) hd hD
  have H2 : Hid (Calls Try.prog 13 #[.int .i64 p, .int .i64 (M : Int)] w fun e w' => e = .returned (.int .i64 P) ∧ w' = w) := Picked_bd p M P w (by omega) (by omega) hp hP
  by_cases h : D < 2
  · obtain rfl : M = D + 1 := by omega
    have hgo : ¬ (3 : Int) ≤ 2 + (D : Int) - 1 := by omega
    have hmi : min (3 : Int) (2 + (D : Int) - 1) = (D + 1 : Nat) := by omega
    clear hM hP
    have hc : ((D + 1 : Nat) : Int) = 2 + (D : Int) - 1 := by omega
    rw [hc] at H2
    clear hc
    go_enter Try.func12, Try.ntmps12
    go_wp2_with fail
    refine H1.out.mono ?_
    rintro e w1 ⟨rfl, rfl⟩
    go_wp2_with fail
    refine H2.out.mono ?_
    rintro e w1 ⟨rfl, rfl⟩
    go_wp2_with fail
    go_ret2
    exact ⟨ret_two (by omega) (by omega), rfl⟩
  · obtain rfl : M = 3 := by omega
    have hgo : (3 : Int) ≤ 2 + (D : Int) - 1 := by omega
    have hmi : min (3 : Int) (2 + (D : Int) - 1) = 3 := by omega
    clear hM hP
    go_enter Try.func12, Try.ntmps12
    go_wp2_with fail
    refine H1.out.mono ?_
    rintro e w1 ⟨rfl, rfl⟩
    go_wp2_with fail
    refine H2.out.mono ?_
    rintro e w1 ⟨rfl, rfl⟩
    go_wp2_with fail
    go_ret2
    exact ⟨ret_two (by omega) (by omega), rfl⟩
end Go.Proofs.Ythgbfakmkdifbaa
