/-
  quicksetref.expOf and logOf at every argument that they are called with; the memory stays as it was.
-/
import Derived.Test.YthgbfakmkdifbaaChecked
import Derived.WalkKit
import Derived.Test.YthgbfakmkdifbaaRfs
namespace Go.Proofs.Ythgbfakmkdifbaa
open Go.RowKit
set_option maxRecDepth 100000 in
theorem expOf_any (n : Nat) (w : World) (hn : n < 9223372036854775808) :
    Calls Try.prog 46 #[.int .i64 n] w fun e w' => e = .returned (.int .i64 (Gf.gpow 2 (n % 255))) ∧ w' = w := by
  go_enter Try.func46, Try.ntmps46
  go_wp2
  go_loop [3, 4] (fun x i => ∃ k : Nat, k ≤ n % 255 ∧ i = .int .i64 k ∧ x = .int .i64 (Gf.gpow 2 k)) (fun _ i => n % 255 - (intOf i).toNat)
  case atStart => exact ⟨0, by omega, rfl, rfl⟩
  case round =>
    obtain ⟨k, hk, rfl, rfl⟩ := hrel
    have hl := Gf.gpow_lt 2 k
    by_cases hlt : k < n % 255
    · have ht : (k : Int) < (n : Int) % 255 := by omega
      go_wp2_with fail
      refine (mulOf_any (Gf.gpow 2 k) 2 w (by omega)).mono ?_
      rintro e w' ⟨rfl, rfl⟩
      go_wp2_with fail
      go_round
      case rel => exact ⟨k + 1, by omega, by go_num, rfl⟩
      case measure => simp [intOf]; omega
    · have ht : ¬ (k : Int) < (n : Int) % 255 := by omega
      go_wp2
      go_ret
      obtain rfl : k = n % 255 := by omega
      exact ⟨rfl, rfl⟩
theorem expOf_int (n : Int) (w : World) (h0 : 0 ≤ n) (hn : n < 9223372036854775808) :
    Calls Try.prog 46 #[.int .i64 n] w fun e w' => e = .returned (.int .i64 (Gf.gpow 2 (n.toNat % 255))) ∧ w' = w := by
  obtain ⟨x, rfl⟩ := Int.eq_ofNat_of_zero_le h0
  exact expOf_any x w (by omega)
end Go.Proofs.Ythgbfakmkdifbaa
