/-
  gf.power and gf.inverse: of an element and a number from 0 on the power of the field; of an element the power 254; the memory stays as it was.
-/
import Derived.Test.YtfdgacpmdlmjnaaChecked
import Derived.WalkKit
import Derived.Test.YtfdgacpmdlmjnaaGfProduct
namespace Go.Proofs.Ytfdgacpmdlmjnaa
open Go.RowKit
attribute [local go_sem] i64_and1
theorem product_int (a b : Int) (w : World) (ha : 0 ≤ a) (ha2 : a < 256) (hb : 0 ≤ b) (hb2 : b < 256) :
    Calls Try.prog 83 #[.int .i64 a, .int .i64 b] w fun e w' => e = .returned (.int .i64 (Gf.gmul a.toNat b.toNat)) ∧ w' = w := by
  obtain ⟨x, rfl⟩ := Int.eq_ofNat_of_zero_le ha
  obtain ⟨y, rfl⟩ := Int.eq_ofNat_of_zero_le hb
  exact product_any x y w (by omega) (by omega)
theorem pow_round_odd (a n p M : Nat) (ha : a < 256) (hn : n < 9223372036854775808) (hp : p < 256) (hI : Gf.gmul p (Gf.gpow a n) = M) (h : ((n : Int) % 2 == 1) = true) :
    ∃ a' n' p' : Nat, a' < 256 ∧ n' < 9223372036854775808 ∧ p' < 256 ∧ Value.int .i64 (Gf.gmul a a : Nat) = .int .i64 a' ∧ Value.int .i64 ((n : Int) / 2) = .int .i64 n' ∧ Value.int .i64 (Gf.gmul p a : Nat) = .int .i64 p' ∧ Gf.gmul p' (Gf.gpow a' n') = M := by
  have h' := eq_of_beq h
  exact ⟨Gf.gmul a a, n / 2, Gf.gmul p a, Gf.gmul_lt _ _ ha, by omega, Gf.gmul_lt _ _ hp, rfl, int_eq (by omega), rfl, by rw [Gf.gpow_odd p a n hp ha (by omega)]; exact hI⟩
theorem pow_round_even (a n p M : Nat) (ha : a < 256) (hn : n < 9223372036854775808) (hp : p < 256) (hI : Gf.gmul p (Gf.gpow a n) = M) (h : ((n : Int) % 2 == 1) = false) :
    ∃ a' n' p' : Nat, a' < 256 ∧ n' < 9223372036854775808 ∧ p' < 256 ∧ Value.int .i64 (Gf.gmul a a : Nat) = .int .i64 a' ∧ Value.int .i64 ((n : Int) / 2) = .int .i64 n' ∧ Value.int .i64 (p : Nat) = .int .i64 p' ∧ Gf.gmul p' (Gf.gpow a' n') = M := by
  have h' := ne_of_beq_false h
  exact ⟨Gf.gmul a a, n / 2, p, Gf.gmul_lt _ _ ha, by omega, hp, rfl, int_eq (by omega), rfl, by rw [Gf.gpow_even p a n ha (by omega)]; exact hI⟩
set_option maxRecDepth 100000 in
set_option maxHeartbeats 400000 in
theorem power_any (a n : Nat) (w : World) (ha : a < 256) (hn : n < 9223372036854775808) :
    Calls Try.prog 82 #[.int .i64 a, .int .i64 n] w fun e w' => e = .returned (.int .i64 (Gf.gpow a n)) ∧ w' = w := by
  go_enter Try.func82, Try.ntmps82
  go_wp2
  go_loop [0, 1, 5] (fun x y z => ∃ a' n' p' : Nat, a' < 256 ∧ n' < 9223372036854775808 ∧ p' < 256 ∧ x = .int .i64 a' ∧ y = .int .i64 n' ∧ z = .int .i64 p' ∧ Gf.gmul p' (Gf.gpow a' n') = Gf.gpow a n) (fun _ y _ => (intOf y).toNat)
  case atStart => exact ⟨a, n, 1, ha, hn, by omega, rfl, rfl, rfl, Gf.one_gmul _ (Gf.gpow_lt _ _)⟩
  case round =>
    obtain ⟨a', n', p', ha', hn', hp', rfl, rfl, rfl, hI⟩ := hrel
    have HI : Hid (Gf.gmul p' (Gf.gpow a' n') = Gf.gpow a n) := hI
    clear hI
    by_cases hlt : 0 < n'
    · go_wp2_with (go_at_call 83; refine (product_any _ _ _ (by omega) (by omega)).mono ?_; rintro e w' ⟨rfl, rfl⟩)
      · go_round
        case rel => exact pow_round_odd a' n' p' _ ha' hn' hp' HI.out ‹_›
        case measure => simp [intOf]; omega
      · go_round
        case rel => exact pow_round_even a' n' p' _ ha' hn' hp' HI.out ‹_›
        case measure => simp [intOf]; omega
    · go_wp2
      go_ret
      obtain rfl : n' = 0 := by omega
      have h := HI.out
      rw [show Gf.gpow a' 0 = 1 from rfl, Gf.gmul_one] at h
      rw [h]
      exact ⟨rfl, rfl⟩
set_option maxRecDepth 100000 in
theorem inverse_any (a : Nat) (w : World) (ha : a < 256) :
    Calls Try.prog 90 #[.int .i64 a] w fun e w' => e = .returned (.int .i64 (Gf.inv a)) ∧ w' = w := by
  go_enter Try.func90, Try.ntmps90
  go_wp2_with fail
  refine (power_any a 254 w ha (by omega)).mono ?_
  rintro e w' ⟨rfl, rfl⟩
  go_wp2_with fail
  go_ret
  exact ⟨rfl, rfl⟩
end Go.Proofs.Ytfdgacpmdlmjnaa
