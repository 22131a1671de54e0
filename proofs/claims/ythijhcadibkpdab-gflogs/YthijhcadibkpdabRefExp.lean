/-
  quicksetref.expOf and logOf at every argument that they are called with; the memory stays as it was.
-/
import Derived.Test.YthijhcadibkpdabChecked
import Derived.WalkKit
import Derived.Test.YthijhcadibkpdabRefMul
namespace Go.Proofs.Ythijhcadibkpdab
open Go.RowKit
set_option maxRecDepth 100000 in
theorem expOf_any (n : Nat) (w : World) (hn : n < 9223372036854775808) :
    Calls Try.prog 25 #[.int .i64 n] w fun e w' => e = .returned (.int .i64 (Gf.gpow 2 (n % 255))) ∧ w' = w := by
  go_enter Try.func25, Try.ntmps25
  go_wp2
  go_loop [3, 4] (fun x i => ∃ k : Nat, k ≤ n % 255 ∧ i = .int .i64 k ∧ x = .int .i64 (Gf.gpow 2 k)) (fun _ i => n % 255 - (intOf i).toNat)
  case atStart => exact ⟨0, by omega, rfl, rfl⟩
  case round =>
    obtain ⟨k, hk, rfl, rfl⟩ := hrel
    have hl := Gf.gpow_lt 2 k
    by_cases hlt : k < n % 255
    · have ht : (k : Int) < (n : Int) % 255 := by omega
      go_wp2_with fail
      refine (mulOf_any (Gf.gpow 2 k) 2 w (by omega)).mono ?_
      rintro e w' ⟨rfl, rfl⟩
      go_wp2_with fail
      go_round
      case rel => exact ⟨k + 1, by omega, by go_num, rfl⟩
      case measure => simp [intOf]; omega
    · have ht : ¬ (k : Int) < (n : Int) % 255 := by omega
      go_wp2
      go_ret
      obtain rfl : k = n % 255 := by omega
      exact ⟨rfl, rfl⟩
theorem expOf_int (n : Int) (w : World) (h0 : 0 ≤ n) (hn : n < 9223372036854775808) :
    Calls Try.prog 25 #[.int .i64 n] w fun e w' => e = .returned (.int .i64 (Gf.gpow 2 (n.toNat % 255))) ∧ w' = w := by
  obtain ⟨x, rfl⟩ := Int.eq_ofNat_of_zero_le h0
  exact expOf_any x w (by omega)
set_option maxRecDepth 100000 in
theorem logOf_any (a : Nat) (w : World) (h0 : 0 < a) (ha : a < 256) :
    Calls Try.prog 20 #[.int .i64 a] w fun e w' => e = .returned (.int .i64 (Gf.lg a)) ∧ w' = w := by
  have hq := Gf.lg_lt a h0 ha
  have HQ : Hid (Gf.gpow 2 (Gf.lg a) = a) := Gf.gpow_lg a h0 ha
  have HO : Hid (∀ j, j < Gf.lg a → Gf.gpow 2 j ≠ a) := fun j h => Gf.lg_least a j h
  generalize Gf.lg a = q at hq HQ HO
  go_enter Try.func20, Try.ntmps20
  go_wp2
  go_loop [3] (fun x => ∃ i : Nat, i ≤ q ∧ x = .int .i64 i) (fun x => 255 - (intOf x).toNat)
  case atStart => exact ⟨0, by omega, rfl⟩
  case round =>
    obtain ⟨i, hi, rfl⟩ := hrel
    have hi2 : i < 255 := by omega
    have hm : Hid (i % 255 = i) := Nat.mod_eq_of_lt hi2
    by_cases he : i = q
    · subst he
      have hz : ((Gf.gpow 2 (i % 255) : Nat) : Int) = (a : Int) := by rw [hm.out, HQ.out]
      go_wp2_with (go_at_call 25; refine (expOf_any _ _ (by omega)).mono ?_; rintro e w' ⟨rfl, rfl⟩)
      go_ret
      exact ⟨rfl, rfl⟩
    · have hz : (((Gf.gpow 2 (i % 255) : Nat) : Int) == (a : Int)) = false := by
        rw [beq_eq_false_iff_ne]
        intro h
        rw [hm.out] at h
        exact HO.out i (by omega) (by omega)
      go_wp2_with (go_at_call 25; refine (expOf_any _ _ (by omega)).mono ?_; rintro e w' ⟨rfl, rfl⟩)
      go_round
      case rel => exact ⟨i + 1, by omega, by go_num⟩
      case measure => simp [intOf]; omega
theorem logOf_int (a : Int) (w : World) (h0 : 0 < a) (ha : a < 256) :
    Calls Try.prog 20 #[.int .i64 a] w fun e w' => e = .returned (.int .i64 (Gf.lg a.toNat)) ∧ w' = w := by
  obtain ⟨x, rfl⟩ := Int.eq_ofNat_of_zero_le (show 0 ≤ a by omega)
  exact logOf_any x w (by omega) (by omega)
end Go.Proofs.Ythijhcadibkpdab
