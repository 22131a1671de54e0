/-
  gf.product: of two elements it returns the product of the field, and the memory stays as it was.
-/
import Derived.Test.YtfdgacpmdlmjnaaChecked
import Derived.WalkKit
import Derived.Test.YtfdgacpmdlmjnaaAlg
import Derived.Test.YtfdgacpmdlmjnaaGfBits
namespace Go.Proofs.Ytfdgacpmdlmjnaa
open Go.RowKit
attribute [local go_sem] i64_and1
set_option maxRecDepth 100000 in
set_option maxHeartbeats 400000 in
theorem product_any (a b : Nat) (w : World) (ha : a < 256) (hb : b < 256) :
    Calls Try.prog 83 #[.int .i64 a, .int .i64 b] w fun e w' => e = .returned (.int .i64 (Gf.gmul a b)) ∧ w' = w := by
  go_enter Try.func83, Try.ntmps83
  go_wp2
  go_loop [0, 1, 5] (fun x y z => ∃ a' b' p' : Nat, a' < 256 ∧ b' < 256 ∧ p' < 256 ∧ x = .int .i64 a' ∧ y = .int .i64 b' ∧ z = .int .i64 p' ∧ Gf.pl 8 a' b' p' = Gf.gmul a b) (fun _ y _ => (intOf y).toNat)
  case atStart => exact ⟨a, b, 0, ha, hb, by omega, rfl, rfl, rfl, Gf.pl_gmul a b⟩
  case round =>
    obtain ⟨a', b', p', ha', hb', hp', rfl, rfl, rfl, hI⟩ := hrel
    have HI : Hid (Gf.pl 8 a' b' p' = Gf.gmul a b) := hI
    clear hI
    by_cases hlt : 0 < b'
    · go_wp2
      · go_round
        case rel => exact prod_round a' b' p' _ ha' hb' hp' HI.out _ _ _ (xt_ge a' ha' ‹_›) rfl (p_odd a' b' p' ha' hp' ‹_›)
        case measure => simp [intOf]; omega
      · go_round
        case rel => exact prod_round a' b' p' _ ha' hb' hp' HI.out _ _ _ (xt_below a' ha' ‹_›) rfl (p_odd a' b' p' ha' hp' ‹_›)
        case measure => simp [intOf]; omega
      · go_round
        case rel => exact prod_round a' b' p' _ ha' hb' hp' HI.out _ _ _ (xt_ge a' ha' ‹_›) rfl (p_even a' b' p' ‹_›)
        case measure => simp [intOf]; omega
      · go_round
        case rel => exact prod_round a' b' p' _ ha' hb' hp' HI.out _ _ _ (xt_below a' ha' ‹_›) rfl (p_even a' b' p' ‹_›)
        case measure => simp [intOf]; omega
    · go_wp2
      go_ret
      have e : b' = 0 := by omega
      have h := HI.out
      rw [e, Gf.pl_done] at h
      rw [h]
      exact ⟨rfl, rfl⟩
end Go.Proofs.Ytfdgacpmdlmjnaa
