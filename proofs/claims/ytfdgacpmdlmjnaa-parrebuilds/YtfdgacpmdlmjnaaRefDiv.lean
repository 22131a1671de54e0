/-
  quicksetref.divOf of an element and one that is not 0: their quotient; the memory stays as it was.
-/
import Derived.Test.YtfdgacpmdlmjnaaChecked
import Derived.WalkKit
import Derived.Test.YtfdgacpmdlmjnaaRefMul
import Derived.Test.YtfdgacpmdlmjnaaAlg
namespace Go.Proofs.Ytfdgacpmdlmjnaa
open Go.RowKit
set_option maxRecDepth 100000 in
theorem divOf_any (a b : Nat) (w : World) (ha : a < 256) (h0 : 0 < b) (hb : b < 256) :
    Calls Try.prog 59 #[.int .i64 a, .int .i64 b] w fun e w' => e = .returned (.int .i64 (Gf.gmul a (Gf.inv b))) ∧ w' = w := by
  have hq := Gf.gmul_lt a (Gf.inv b) ha
  have HQ : Hid (Gf.gmul (Gf.gmul a (Gf.inv b)) b = a) := Gf.div_gmul a b ha h0 hb
  have HO : Hid (∀ x, x < 256 → Gf.gmul x b = a → x = Gf.gmul a (Gf.inv b)) := fun x hx h => Gf.div_only x a b hx h0 hb h
  generalize Gf.gmul a (Gf.inv b) = q at hq HQ HO
  go_enter Try.func59, Try.ntmps59
  go_wp2
  go_loop [5] (fun x => ∃ i : Nat, i ≤ q ∧ x = .int .i64 i) (fun x => 256 - (intOf x).toNat)
  case atStart => exact ⟨0, by omega, rfl⟩
  case round =>
    obtain ⟨i, hi, rfl⟩ := hrel
    have hi2 : i < 256 := by omega
    by_cases he : i = q
    · subst he
      have hz : ((Gf.gmul i b : Nat) : Int) = (a : Int) := by rw [HQ.out]
      go_wp2_with (go_at_call 35; refine (mulOf_any _ _ _ (by omega)).mono ?_; rintro e w' ⟨rfl, rfl⟩)
      go_ret
      exact ⟨rfl, rfl⟩
    · have hz : (((Gf.gmul i b : Nat) : Int) == (a : Int)) = false := by
        rw [beq_eq_false_iff_ne]
        intro h
        exact he (HO.out i hi2 (by omega))
      go_wp2_with (go_at_call 35; refine (mulOf_any _ _ _ (by omega)).mono ?_; rintro e w' ⟨rfl, rfl⟩)
      go_round
      case rel => exact ⟨i + 1, by omega, by go_num⟩
      case measure => simp [intOf]; omega
open E in
theorem divOf_ev (x y : E) (h : y ≠ ze) (w : World) : Calls Try.prog 59 #[.int .i64 (ev x), .int .i64 (ev y)] w fun e w' => e = .returned (.int .i64 (ev (mu x (iv y)))) ∧ w' = w := divOf_any x.val y.val w x.lt (pos_of_ne h) y.lt
end Go.Proofs.Ytfdgacpmdlmjnaa
