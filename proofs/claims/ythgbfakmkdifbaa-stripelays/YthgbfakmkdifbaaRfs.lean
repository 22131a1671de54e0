/-
  quicksetref.mulOf: of two elements it returns the product of the field (all of it first, then the division), and the memory stays as it was.
-/
import Derived.Test.YthgbfakmkdifbaaChecked
import Derived.WalkKit
import Derived.Test.YthgbfakmkdifbaaGfs
import Derived.Test.YthgbfakmkdifbaaAlg
import Derived.Test.YthgbfakmkdifbaaMats
namespace Go.Proofs.Ythgbfakmkdifbaa
open Go.RowKit
attribute [local go_sem] i64_and1
theorem bit_cast (p k : Nat) : (p : Int) / 2 ^ k % 2 = ((p / 2 ^ k % 2 : Nat) : Int) := by norm_cast
theorem cm_yes (i a b : Nat) (hi : i < 8) (ha : a < 256) (h : ((b : Int) / 2 ^ i % 2 == 1) = true) : bits .xor .i64 (Gf.cmTo i a b : Nat) (wrap64 ((a : Int) * 2 ^ i)) = (Gf.cmTo (i + 1) a b : Nat) := by
  have h' := eq_of_beq h
  rw [bit_cast] at h'
  have h1 := Gf.cmTo_lt i a b ha (by omega)
  have h2 : a * 2 ^ i < 32768 := by
    have h2 : 2 ^ i ≤ 2 ^ 7 := Nat.pow_le_pow_right (by omega) (by omega)
    have h3 : a * 2 ^ i ≤ 255 * 2 ^ 7 := Nat.mul_le_mul (by omega) h2
    omega
  have h4 : (a : Int) * 2 ^ i = ((a * 2 ^ i : Nat) : Int) := by norm_cast
  have h5 : wrap64 ((a : Int) * 2 ^ i) = ((a * 2 ^ i : Nat) : Int) := by
    rw [h4]; generalize a * 2 ^ i = x at *; unfold wrap64; omega
  rw [h5, i64_xor _ _ (by omega) (by omega)]
  have e : Gf.cmTo (i + 1) a b = if b / 2 ^ i % 2 = 1 then Gf.cmTo i a b ^^^ (a * 2 ^ i) else Gf.cmTo i a b := rfl
  rw [e, if_pos (by omega)]
theorem cm_no (i a b : Nat) (h : ((b : Int) / 2 ^ i % 2 == 1) = false) : ((Gf.cmTo i a b : Nat) : Int) = (Gf.cmTo (i + 1) a b : Nat) := by
  have h' := ne_of_beq_false h
  rw [bit_cast] at h'
  have e : Gf.cmTo (i + 1) a b = if b / 2 ^ i % 2 = 1 then Gf.cmTo i a b ^^^ (a * 2 ^ i) else Gf.cmTo i a b := rfl
  rw [e, if_neg (by omega)]
theorem rd_next (j k c : Nat) (hk : k + j = 14) : Gf.rdTo (j + 1) c = if Gf.rdTo j c / 2 ^ k % 2 = 1 then Gf.rdTo j c ^^^ (285 * 2 ^ (k - 8)) else Gf.rdTo j c := by
  have e : Gf.rdTo (j + 1) c = Gf.rdStep (14 - j) (Gf.rdTo j c) := rfl
  rw [e, show 14 - j = k from by omega]
  unfold Gf.rdStep
  rw [Gf.testBit_div]
  simp only [decide_eq_true_eq]
theorem rd_yes (j k c : Nat) (hk : k + j = 14) (hr : Gf.rdTo j c < 32768) (h : ((Gf.rdTo j c : Nat) : Int) / 2 ^ k % 2 == 1) : bits .xor .i64 (Gf.rdTo j c : Nat) (wrap64 (285 * 2 ^ (k - 8))) = (Gf.rdTo (j + 1) c : Nat) := by
  have h' := eq_of_beq h
  rw [bit_cast] at h'
  have h2 : 285 * 2 ^ (k - 8) < 32768 := by
    have h3 : 2 ^ (k - 8) ≤ 2 ^ 6 := Nat.pow_le_pow_right (by omega) (by omega)
    have h4 : 285 * 2 ^ (k - 8) ≤ 285 * 2 ^ 6 := Nat.mul_le_mul (by omega) h3
    omega
  have h4 : (285 : Int) * 2 ^ (k - 8) = ((285 * 2 ^ (k - 8) : Nat) : Int) := by rw [Int.natCast_mul, Int.natCast_pow]; rfl
  have h5 : wrap64 ((285 : Int) * 2 ^ (k - 8)) = ((285 * 2 ^ (k - 8) : Nat) : Int) := by
    rw [h4]; generalize 285 * 2 ^ (k - 8) = x at *; unfold wrap64; omega
  rw [h5, i64_xor _ _ (by omega) (by omega), rd_next j k c hk, if_pos (by omega)]
theorem rd_no (j k c : Nat) (hk : k + j = 14) (h : (((Gf.rdTo j c : Nat) : Int) / 2 ^ k % 2 == 1) = false) : ((Gf.rdTo j c : Nat) : Int) = (Gf.rdTo (j + 1) c : Nat) := by
  have h' := ne_of_beq_false h
  rw [bit_cast] at h'
  rw [rd_next j k c hk, if_neg (by omega)]
set_option maxRecDepth 100000 in
set_option maxHeartbeats 400000 in
theorem mulOf_any (a b : Nat) (w : World) (ha : a < 256) :
    Calls Try.prog 45 #[.int .i64 a, .int .i64 b] w fun e w' => e = .returned (.int .i64 (Gf.gmul a b)) ∧ w' = w := by
  go_enter Try.func45, Try.ntmps45
  go_wp2
  go_loop [5, 6] (fun p k => ∃ i : Nat, i ≤ 8 ∧ k = .int .i64 i ∧ p = .int .i64 (Gf.cmTo i a b)) (fun _ k => 8 - (intOf k).toNat)
  case atStart => exact ⟨0, by omega, rfl, rfl⟩
  case round =>
    obtain ⟨i, hi, rfl, rfl⟩ := hrel
    by_cases hlt : i < 8
    · go_wp2
      · go_round
        case rel => exact ⟨i + 1, by omega, by go_num, int_eq (cm_yes i a b hlt ha ‹_›)⟩
        case measure => simp [intOf]; omega
      · go_round
        case rel => exact ⟨i + 1, by omega, by go_num, int_eq (cm_no i a b ‹_›)⟩
        case measure => simp [intOf]; omega
    · obtain rfl : i = 8 := by omega
      have hc := Gf.cmTo_lt 8 a b ha (by omega)
      have HM : Hid (Gf.rdTo 7 (Gf.cmTo 8 a b) = Gf.gmul a b) := Gf.mulOf_eq a b ha
      generalize Gf.cmTo 8 a b = c at hc HM
      go_wp2
      go_loop [5, 7] (fun p k => ∃ j k' : Nat, k' + j = 14 ∧ j ≤ 7 ∧ k = .int .i64 k' ∧ p = .int .i64 (Gf.rdTo j c)) (fun _ k => (intOf k).toNat)
      case atStart => exact ⟨0, 14, by omega, by omega, rfl, rfl⟩
      case round =>
        obtain ⟨j, k, hjk, hj, rfl, rfl⟩ := hrel
        have hr := Gf.rdTo_lt j c hc
        by_cases hlt2 : j < 7
        · go_wp2
          · go_round
            case rel => exact ⟨j + 1, k - 1, by omega, by omega, int_eq (by omega), int_eq (rd_yes j k c hjk hr ‹_›)⟩
            case measure => simp [intOf]; omega
          · go_round
            case rel => exact ⟨j + 1, k - 1, by omega, by omega, int_eq (by omega), int_eq (rd_no j k c hjk ‹_›)⟩
            case measure => simp [intOf]; omega
        · go_wp2
          go_ret
          obtain rfl : j = 7 := by omega
          rw [HM.out]
          exact ⟨rfl, rfl⟩
end Go.Proofs.Ythgbfakmkdifbaa
/-
  quicksetref.mulOf of elements, and xor of elements, as the field's product and sum.
-/
namespace Go.Proofs.Ythgbfakmkdifbaa
open Go.RowKit E
theorem mulOf_ev (x y : E) (w : World) : Calls Try.prog 45 #[.int .i64 (ev x), .int .i64 (ev y)] w fun e w' => e = .returned (.int .i64 (ev (mu x y))) ∧ w' = w := mulOf_any x.val y.val w x.lt
theorem xor_ev (x y : E) : bits .xor .i64 (ev x) (ev y) = ev (ad x y) := i64_xor x.val y.val (by have := x.lt; omega) (by have := y.lt; omega)
end Go.Proofs.Ythgbfakmkdifbaa
/-
  quicksetref.divOf of an element and one that is not 0: their quotient; the memory stays as it was.
-/
namespace Go.Proofs.Ythgbfakmkdifbaa
open Go.RowKit
end Go.Proofs.Ythgbfakmkdifbaa
/-
  quicksetref.Element: whether a number is from 0 to 255; the memory stays as it was.
-/
namespace Go.Proofs.Ythgbfakmkdifbaa
open Go.RowKit
end Go.Proofs.Ythgbfakmkdifbaa
/-
  quicksetref.MatMay at every matrix: the same plain answer; the memory stays as it was.
-/
namespace Go.Proofs.Ythgbfakmkdifbaa
open Go.RowKit
end Go.Proofs.Ythgbfakmkdifbaa
