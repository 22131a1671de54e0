/-
  Each address has a spot of its own, neighbours on other drives; no condition.
-/
import Derived.Test.YtbjbalflicadjaaRows
import Derived.WalkKit
import Derived.ProofKit
import Derived.OpenShut
import Derived.ChangeOld
import Derived.Below
import Derived.BigQuiet
import Derived.Deep.CutRange
import Derived.Deep.QuietTactic
import Derived.Deep.RegionLaw
import Derived.Test.YtbjbalflicadjaaOpn
import Derived.Test.YtbjbalflicadjaaChecked
import Derived.Test.YtbjbalflicadjaaGeoFn
import Derived.Test.YtbjbalflicadjaaGeoShp
namespace Go.Proofs.Ytbjbalflicadjaa.spotApart
open Go.ChangeShapes Go.WideShapes Go.ChangeAt Go.RowKit Go.Deep E
set_option linter.unusedVariables false
theorem spot_nat (d a : Nat) (h1 : 2 ≤ d) (h2 : d ≤ 8) (h3 : a ≤ 65536) (w : World) :
    Calls Try.prog 11 #[.int .i64 d, .int .i64 a] w fun e w' => e = .returned (.tuple #[.int .i64 (a % d : Nat), .int .i64 (a / d : Nat), .int .i64 0]) ∧ Ext w w' := by
  refine (GeSpot_any d a w).mono ?_
  rintro e w' ⟨rfl, hx⟩
  have h : (okD d && okAd a) = true := by
    have a1 := (okD_iff (d : Int)).2 ⟨by omega, by omega⟩
    have a2 := (okAd_iff (a : Int)).2 ⟨by omega, by omega⟩
    rw [a1, a2]; rfl
  refine ⟨ret_three ?_ ?_ ?_, hx⟩
  · unfold spotD
    rw [h]
    rfl
  · unfold spotA
    rw [h]
    rfl
  · unfold spotE
    rw [h]
    rfl
set_option maxRecDepth 100000 in
set_option maxHeartbeats 4000000 in
theorem walk (a0 : Int) (a1 : Int) (a2 : Int) (a3 : Int) (w : World) (w0 : -9223372036854775808 ≤ a0 ∧ a0 ≤ 9223372036854775807) (w1 : -9223372036854775808 ≤ a1 ∧ a1 ≤ 9223372036854775807) (w2 : -9223372036854775808 ≤ a2 ∧ a2 ≤ 9223372036854775807) (w3 : -9223372036854775808 ≤ a3 ∧ a3 ≤ 9223372036854775807) :
    Calls Try.prog 8 #[.int .i64 a0, .int .i64 a1, .int .i64 a2, .int .i64 a3] w fun e w' => e = .returned (.bool true) ∧ Ext w w' := by
  obtain ⟨D, P, hD1, hD2, hP1, hP2, hP3, HS⟩ := Shape_nat a0 a1 (by omega) (by omega)
  obtain ⟨X, hX, hX1⟩ := picked_is a2 65536 (by omega)
  obtain ⟨Y, hY, hY1⟩ := picked_is a3 65536 (by omega)
  have HX : Hid (∀ w, Calls Try.prog 17 #[.int .i64 a2, .int .i64 65536] w fun e w' => e = .returned (.int .i64 X) ∧ w' = w) := fun w => Picked_bd a2 65536 X w (by omega) (by omega) (by omega) hX
  have HY : Hid (∀ w, Calls Try.prog 17 #[.int .i64 a3, .int .i64 65536] w fun e w' => e = .returned (.int .i64 Y) ∧ w' = w) := fun w => Picked_bd a3 65536 Y w (by omega) (by omega) (by omega) hY
  have K1 : Hid (∀ w, Calls Try.prog 11 #[.int .i64 D, .int .i64 X] w fun e w' => e = .returned (.tuple #[.int .i64 (X % D : Nat), .int .i64 (X / D : Nat), .int .i64 0]) ∧ Ext w w') := fun w => spot_nat D X hD1 hD2 (by omega) w
  have K2 : Hid (∀ w, Calls Try.prog 11 #[.int .i64 D, .int .i64 Y] w fun e w' => e = .returned (.tuple #[.int .i64 (Y % D : Nat), .int .i64 (Y / D : Nat), .int .i64 0]) ∧ Ext w w') := fun w => spot_nat D Y hD1 hD2 (by omega) w
  have K3 : Hid (∀ w, Calls Try.prog 11 #[.int .i64 D, .int .i64 ((X : Int) + 1)] w fun e w' => e = .returned (.tuple #[.int .i64 ((X + 1) % D : Nat), .int .i64 ((X + 1) / D : Nat), .int .i64 0]) ∧ Ext w w') := fun w => spot_nat D (X + 1) hD1 hD2 (by omega) w
  have b1 := Nat.mod_lt X (show 0 < D by omega)
  have b2 := Nat.mod_lt Y (show 0 < D by omega)
  have b3 := Nat.mod_lt (X + 1) (show 0 < D by omega)
  have c1 : Nat.div X D ≤ X := Nat.div_le_self _ _
  have c2 : Nat.div Y D ≤ Y := Nat.div_le_self _ _
  have c3 : Nat.div (X + 1) D ≤ X + 1 := Nat.div_le_self _ _
  have hne : (X + 1) % D ≠ X % D := fun h => by
    have h4 : (D * ((X + 1) / D) + (X + 1) % D) = X + 1 := Nat.div_add_mod _ _
    have h5 : (D * (X / D) + X % D) = X := Nat.div_add_mod _ _
    have h6 : D * ((X + 1) / D) = D * (X / D) + 1 := by omega
    have h7 : D * ((X + 1) / D) % D = (D * (X / D) + 1) % D := by rw [h6]
    rw [Nat.mul_mod_right, Nat.mul_add_mod, Nat.mod_eq_of_lt (by omega)] at h7
    omega
  have heq : Hid ((X = Y) ↔ (X % D = Y % D ∧ X / D = Y / D)) := by
    constructor
    · intro h
      rw [h]
      exact ⟨rfl, rfl⟩
    · rintro ⟨h1, h2⟩
      have h4 : (D * (Y / D) + Y % D) = Y := Nat.div_add_mod _ _
      have h5 : (D * (X / D) + X % D) = X := Nat.div_add_mod _ _
      rw [← h4, ← h5, h1, h2]
  have c1' : X / D ≤ X := c1
  have c2' : Y / D ≤ Y := c2
  have c3' : (X + 1) / D ≤ X + 1 := c3
  clear c1 c2 c3 hX hY
  generalize X % D = i at *
  generalize X / D = m at *
  generalize Y % D = k at *
  generalize Y / D = n at *
  generalize (X + 1) % D = j at *
  generalize (X + 1) / D = l at *
  by_cases hXY : X = Y
  · obtain ⟨rfl, rfl⟩ := heq.out.1 hXY
    have q1 : ((X : Int) == (Y : Int)) = true := by rw [beq_iff_eq]; omega
    have q2 : ((i : Int) == (i : Int)) = true := by simp
    have q3 : ((m : Int) == (m : Int)) = true := by simp
    have q4 : ((j : Int) != (i : Int)) = true := by rw [bne_iff_ne]; omega
    clear hXY heq
    go_enter Try.func8, Try.ntmps8
    go_wp2_with fail
    refine (HS w).mono ?_
    rintro e w1 ⟨rfl, rfl⟩
    clear HS
    go_wp2_with fail
    refine (HX.out _).mono ?_
    rintro e w1 ⟨rfl, rfl⟩
    go_wp2_with fail
    refine (HY.out _).mono ?_
    rintro e w1 ⟨rfl, rfl⟩
    go_wp2_with fail
    refine (K1.out _).mono ?_
    rintro e w2 ⟨rfl, hx1⟩
    go_wp2_with fail
    refine (K2.out _).mono ?_
    rintro e w3 ⟨rfl, hx2⟩
    go_wp2_with fail
    refine (K3.out _).mono ?_
    rintro e w4 ⟨rfl, hx3⟩
    go_wp2_with fail
    go_ret
    exact ⟨rfl, (hx1.trans hx2).trans hx3⟩
  · have q1 : ((X : Int) == (Y : Int)) = false := by rw [beq_eq_false_iff_ne]; omega
    have q4 : ((j : Int) != (i : Int)) = true := by rw [bne_iff_ne]; omega
    by_cases hik : i = k
    · subst hik
      have hmn : m ≠ n := fun h => hXY (heq.out.2 ⟨rfl, h⟩)
      have q2 : ((i : Int) == (i : Int)) = true := by simp
      have q3 : ((m : Int) == (n : Int)) = false := by rw [beq_eq_false_iff_ne]; omega
      clear hXY heq
      go_enter Try.func8, Try.ntmps8
      go_wp2_with fail
      refine (HS w).mono ?_
      rintro e w1 ⟨rfl, rfl⟩
      clear HS
      go_wp2_with fail
      refine (HX.out _).mono ?_
      rintro e w1 ⟨rfl, rfl⟩
      go_wp2_with fail
      refine (HY.out _).mono ?_
      rintro e w1 ⟨rfl, rfl⟩
      go_wp2_with fail
      refine (K1.out _).mono ?_
      rintro e w2 ⟨rfl, hx1⟩
      go_wp2_with fail
      refine (K2.out _).mono ?_
      rintro e w3 ⟨rfl, hx2⟩
      go_wp2_with fail
      refine (K3.out _).mono ?_
      rintro e w4 ⟨rfl, hx3⟩
      go_wp2_with fail
      go_ret
      exact ⟨rfl, (hx1.trans hx2).trans hx3⟩
    · have q2 : ((i : Int) == (k : Int)) = false := by rw [beq_eq_false_iff_ne]; omega
      clear hXY heq
      go_enter Try.func8, Try.ntmps8
      go_wp2_with fail
      refine (HS w).mono ?_
      rintro e w1 ⟨rfl, rfl⟩
      clear HS
      go_wp2_with fail
      refine (HX.out _).mono ?_
      rintro e w1 ⟨rfl, rfl⟩
      go_wp2_with fail
      refine (HY.out _).mono ?_
      rintro e w1 ⟨rfl, rfl⟩
      go_wp2_with fail
      refine (K1.out _).mono ?_
      rintro e w2 ⟨rfl, hx1⟩
      go_wp2_with fail
      refine (K2.out _).mono ?_
      rintro e w3 ⟨rfl, hx2⟩
      go_wp2_with fail
      refine (K3.out _).mono ?_
      rintro e w4 ⟨rfl, hx3⟩
      go_wp2_with fail
      go_ret
      exact ⟨rfl, (hx1.trans hx2).trans hx3⟩
end Go.Proofs.Ytbjbalflicadjaa.spotApart
