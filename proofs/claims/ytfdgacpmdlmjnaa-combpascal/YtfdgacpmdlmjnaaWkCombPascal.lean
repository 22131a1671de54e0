/-
  comb.Count keeps Pascal's triangle: as many picks as leave-outs, one at both ends, between them the sum of the two above; at every two arguments of type int; no condition.
-/
import Derived.Test.YtfdgacpmdlmjnaaRows
import Derived.WalkKit
import Derived.ProofKit
import Derived.OpenShut
import Derived.ChangeOld
import Derived.Below
import Derived.BigQuiet
import Derived.Deep.CutRange
import Derived.Deep.QuietTactic
import Derived.Deep.RegionLaw
import Derived.Test.YtfdgacpmdlmjnaaOpn
import Derived.Test.YtfdgacpmdlmjnaaChecked
import Derived.Test.YtfdgacpmdlmjnaaCombBase
import Derived.Test.YtfdgacpmdlmjnaaKeepPick
namespace Go.Proofs.Ytfdgacpmdlmjnaa.combPascal
open Go.ChangeShapes Go.WideShapes Go.ChangeAt Go.RowKit
set_option linter.unusedVariables false
theorem Count_ok (n k : Nat) (c : Nat) (hc : cho n k = c) (w : World) (hn : n ≤ 12) (hk : k ≤ n) : Calls Try.prog 12 #[.int .i64 n, .int .i64 k] w fun e w' => e = .returned (.tuple #[.int .i64 c, .int .i64 0]) ∧ w' = w := by
  have h : maysP n k := ⟨⟨by omega, by omega⟩, by omega, by omega⟩
  have hv : cntV n k = (c : Int) := by unfold cntV; rw [if_pos h, ← hc]; rfl
  have he : cntE n k = 0 := if_pos h
  have := Count_any n k w
  rwa [hv, he] at this
theorem pascal_parts (a0 a1 : Int) : ∃ M J : Nat, (1 + a0 % 12 = M ∧ 1 ≤ M ∧ M ≤ 12) ∧ a1 % ((M : Int) + 1) = J ∧ J ≤ M := by
  obtain ⟨M, hM⟩ : ∃ M : Nat, 1 + a0 % 12 = M := ⟨(1 + a0 % 12).toNat, by omega⟩
  have h1 := Int.emod_nonneg a1 (b := (M : Int) + 1) (by omega)
  have h2 := Int.emod_lt_of_pos a1 (b := (M : Int) + 1) (by omega)
  exact ⟨M, (a1 % ((M : Int) + 1)).toNat, ⟨hM, by omega, by omega⟩, by omega, by omega⟩
set_option maxRecDepth 100000 in
set_option maxHeartbeats 4000000 in
theorem walk (a0 : Int) (a1 : Int) (w : World) (w0 : -9223372036854775808 ≤ a0 ∧ a0 ≤ 9223372036854775807) (w1 : -9223372036854775808 ≤ a1 ∧ a1 ≤ 9223372036854775807) :
    Calls Try.prog 8 #[.int .i64 a0, .int .i64 a1] w fun e w' => e = .returned (.bool true) ∧ Ext w w' := by
  obtain ⟨M, J, ⟨hM, hM1, hM2⟩, hJ, hJM⟩ := pascal_parts a0 a1
  obtain ⟨c, hc⟩ : ∃ c, cho M J = c := ⟨_, rfl⟩
  have hs : cho M (M - J) = c := by rw [← hc, cho_sym M (by omega) J (by omega) hJM]
  have hcp : 1 ≤ c := by rw [← hc]; exact cho_pos M J hJM
  have hcl : c ≤ 924 := by rw [← hc]; exact cho_le M (by omega) J (by omega)
  have HM : Hid (1 + a0 % 12 = M) := hM
  have HJ : Hid (a1 % ((M : Int) + 1) = J) := hJ
  have HC : Hid (cho M J = c) := hc
  have HS : Hid (cho M (M - J) = c) := hs
  clear hM hJ hc hs
  go_enter Try.func8, Try.ntmps8
  go_wp2_with fail
  refine (Picked_any a0 12 _ (by omega) (by omega) (by omega) (by omega)).mono ?_
  rintro e w1 ⟨rfl, rfl⟩
  have hm0 : 0 ≤ a0 % 12 ∧ a0 % 12 < 12 := by omega
  obtain ⟨z, hz⟩ : ∃ z, a0 % 12 = z := ⟨_, rfl⟩
  rw [hz]
  have hzM : 1 + z = (M : Int) := by rw [← hz]; exact HM.out
  have hz0 : z = (M : Int) - 1 := by omega
  subst hz0
  have e1 : (1 : Int) + ((M : Int) - 1) = (M : Int) := by omega
  clear hz hzM hm0
  go_wp2_with fail
  refine (Picked_any a1 ((M : Int) + 1) _ (by omega) (by omega) (by omega) (by omega)).mono ?_
  rintro e w2 ⟨rfl, rfl⟩
  rw [HJ.out]
  have e2 : (M : Int) - (J : Int) = ((M - J : Nat) : Int) := by omega
  go_wp2_with fail
  refine (Count_ok M J c HC.out _ hM2 hJM).mono ?_
  rintro e w3 ⟨rfl, rfl⟩
  go_wp2_with fail
  refine (Count_ok M (M - J) c HS.out _ hM2 (by omega)).mono ?_
  rintro e w4 ⟨rfl, rfl⟩
  have k0 : ((c : Int) != (c : Int)) = false := by simp
  by_cases hj0 : J = 0
  · subst hj0
    have hc1 : c = 1 := by rw [← HC.out, cho_zero]
    subst hc1
    go_wp2_with fail
    go_ret
    exact ⟨rfl, Ext.refl _⟩
  · by_cases hjm : J = M
    · subst hjm
      have hc1 : c = 1 := by rw [← HC.out, cho_all]
      subst hc1
      go_wp2_with fail
      go_ret
      exact ⟨rfl, Ext.refl _⟩
    · obtain ⟨a, ha⟩ : ∃ a, cho (M - 1) (J - 1) = a := ⟨_, rfl⟩
      obtain ⟨b, hb⟩ : ∃ b, cho (M - 1) J = b := ⟨_, rfl⟩
      have hab : c = a + b := by
        rw [← HC.out, ← ha, ← hb]
        obtain ⟨M', rfl⟩ : ∃ M', M = M' + 1 := ⟨M - 1, by omega⟩
        obtain ⟨J', rfl⟩ : ∃ J', J = J' + 1 := ⟨J - 1, by omega⟩
        rfl
      have hap : 1 ≤ a := by rw [← ha]; exact cho_pos _ _ (by omega)
      have hbp : 1 ≤ b := by rw [← hb]; exact cho_pos _ _ (by omega)
      have e3 : (M : Int) - 1 = ((M - 1 : Nat) : Int) := by omega
      have e4 : (J : Int) - 1 = ((J - 1 : Nat) : Int) := by omega
      have HA : Hid (cho (M - 1) (J - 1) = a) := ha
      have HB : Hid (cho (M - 1) J = b) := hb
      clear ha hb
      have hne : ((J : Int) == (M : Int)) = false := by rw [beq_eq_false_iff_ne]; omega
      have hne0 : ((J : Int) == 0) = false := by rw [beq_eq_false_iff_ne]; omega
      go_wp2_with fail
      refine (Count_ok (M - 1) (J - 1) a HA.out _ (by omega) (by omega)).mono ?_
      rintro e w5 ⟨rfl, rfl⟩
      go_wp2_with fail
      refine (Count_ok (M - 1) J b HB.out _ (by omega) (by omega)).mono ?_
      rintro e w6 ⟨rfl, rfl⟩
      have keq : ((c : Int) == (a : Int) + (b : Int)) = true := by rw [hab]; simp
      have hal : a ≤ 924 := by omega
      have hbl : b ≤ 924 := by omega
      have ga : 1 ≤ (a : Int) ∧ (a : Int) < 1048576 := by omega
      have gb : 1 ≤ (b : Int) ∧ (b : Int) < 1048576 := by omega
      have gs : (c : Int) = (a : Int) + (b : Int) := by omega
      clear hab e1 e2 e3 e4 hne hne0 k0 hap hbp hal hbl HA HB keq HC HS hcp hcl
      generalize (a : Int) = A at *
      generalize (b : Int) = B at *
      generalize (c : Int) = C at *
      have keq : (C == A + B) = true := by rw [gs]; simp
      go_wp2_with fail
      go_ret
      exact ⟨rfl, Ext.refl _⟩
end Go.Proofs.Ytfdgacpmdlmjnaa.combPascal
