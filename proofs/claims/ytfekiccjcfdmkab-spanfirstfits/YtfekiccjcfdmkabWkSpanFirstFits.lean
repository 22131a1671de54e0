/-
  The first place is one, and there is none ahead of it: for every list of ints and every int span.First and Has, at the set and the number made of them, answer so; no condition.
-/
import Derived.Test.YtfekiccjcfdmkabRows
import Derived.WalkKit
import Derived.ProofKit
import Derived.OpenShut
import Derived.ChangeOld
import Derived.Below
import Derived.BigQuiet
import Derived.Deep.CutRange
import Derived.Deep.QuietTactic
import Derived.Deep.RegionLaw
import Derived.Test.YtfekiccjcfdmkabOpn
import Derived.Test.YtfekiccjcfdmkabChecked
import Derived.Test.YtfekiccjcfdmkabKeepSpan
import Derived.Test.YtfekiccjcfdmkabSpanHs
import Derived.Test.YtfekiccjcfdmkabSpanFst
import Derived.Test.YtfekiccjcfdmkabSpanFitM
namespace Go.Proofs.Ytfekiccjcfdmkab.spanFirstFits
open Go.ChangeShapes Go.WideShapes Go.ChangeAt Go.RowKit
set_option linter.unusedVariables false
theorem has_memF {L : List (Int × Int)} (h : mayB L = true) (k : Int) : hasB L k = memB k L := by
  unfold hasB
  rw [h]
  rfl
theorem fst_hit {L : List (Int × Int)} {k v : Int} (h : mayB L = true) (hk : 1 ≤ k) (hf : fstL k L = some v) : fV L k = v ∧ fE L k = 0 := by
  unfold fV fE
  rw [h, hf, decide_eq_true hk, if_pos hk]
  exact ⟨rfl, rfl⟩
theorem fst_miss {L : List (Int × Int)} {k : Int} (h : mayB L = true) (hk : 1 ≤ k) (hf : fstL k L = none) : fV L k = 0 ∧ fE L k = 6 := by
  unfold fV fE
  rw [h, hf, decide_eq_true hk, if_pos hk]
  exact ⟨rfl, rfl⟩
set_option maxRecDepth 100000 in
set_option maxHeartbeats 4000000 in
theorem walk (a0 : Option Addr) (n0 c0 : Nat) (f0 : Nat → Int) (a1 : Int) (w : World) (h0 : Ints w a0 n0 f0) (b0 : n0 ≤ 9223372036854775807 ∧ ∀ i, i < n0 → -9223372036854775808 ≤ f0 i ∧ f0 i ≤ 9223372036854775807) (w1 : -9223372036854775808 ≤ a1 ∧ a1 ≤ 9223372036854775807) :
    Calls Try.prog 3 #[.slice a0 n0 c0, .int .i64 a1] w fun e w' => e = .returned (.bool true) ∧ Ext w w' := by
  have HH0 : Hid (Ints w a0 n0 f0) := h0
  have HB0 : Hid (∀ i, i < n0 → -9223372036854775808 ≤ f0 i ∧ f0 i ≤ 9223372036854775807) := b0.2
  have hn0 : n0 ≤ 9223372036854775807 := b0.1
  have HW1 : Hid (-9223372036854775808 ≤ a1 ∧ a1 ≤ 9223372036854775807) := w1
  clear h0 b0 w1
  have S1 := SetOf_any a0 n0 c0 f0 12 _ w (by omega) hn0 HH0.out HB0.out rfl
  go_enter Try.func3, Try.ntmps3
  go_wp2_with fail
  refine S1.mono ?_
  rintro e z1 ⟨v1, rfl, X, aX, cX, rfl, hX1, hX2, hX3, hX4, hX5, hx1⟩
  have HX : Hid (Nrm X ∧ (∀ k, memL k X → 0 ≤ k ∧ k < 359) ∧ Rngs z1 aX X ∧ mayB X = true) := ⟨hX1, fun k hk => SetP_bd ((hX2 k).1 hk), hX3, hX4⟩
  clear hX1 hX2 hX3 hX4 S1
  go_wp2_with fail
  refine (Picked_any a1 80 _ (by omega) (by omega) HW1.out.1 HW1.out.2).mono ?_
  rintro e z2 ⟨rfl, rfl⟩
  have hk0 : 0 ≤ a1 % 80 ∧ a1 % 80 < 80 := by omega
  generalize a1 % 80 = k0 at *
  obtain ⟨k, hk⟩ : ∃ k, 1 + k0 = k := ⟨_, rfl⟩
  obtain rfl : k0 = k - 1 := by omega
  have hk1 : 1 ≤ k ∧ k ≤ 80 := by omega
  have e1 : 1 + (k - 1) = k := by omega
  clear hk hk0
  have HF := SpFirst_any aX X.length cX X k z2 rfl (by omega) HX.out.2.2.1 (may_bdd HX.out.2.2.2)
  go_wp2_with fail
  refine HF.mono ?_
  rintro e z3 ⟨rfl, hx3⟩
  obtain ⟨V, hV⟩ : ∃ V, fV X k = V := ⟨_, rfl⟩
  obtain ⟨E, hE⟩ : ∃ E, fE X k = E := ⟨_, rfl⟩
  rw [hV, hE]
  have HVE : Hid (fV X k = V ∧ fE X k = E) := ⟨hV, hE⟩
  have HX3 : Hid (Ext z2 z3 ∧ Ext w z3) := ⟨hx3, hx1.trans hx3⟩
  clear hV hE HF hx3 hx1 e1
  go_wp2_with fail
  go_loopw [10, 11] (fun r i wr => ∃ (q : Nat) (row : Int), q ≤ 400 ∧ i = .int .i64 q ∧ r = .int .i64 row ∧ Fit X k q row ∧ Ext z3 wr) (fun _ i _ => 400 - (intOf i).toNat)
  case atStart => exact ⟨0, 0, by omega, rfl, rfl, Fit.start X k hk1.1, Ext.refl _⟩
  case round =>
    obtain ⟨q, row, hq, rfl, rfl, hfit, hx⟩ := hrel
    have HFt : Hid (Fit X k q row) := hfit
    have hb := hfit.bd
    clear hfit
    by_cases hlt : q < 400
    · have HH := SpHas_any aX X.length cX X q wr rfl (by omega) (HX.out.2.2.1.ext (HX3.out.1.trans hx)) (may_bdd HX.out.2.2.2)
      rw [has_memF HX.out.2.2.2] at HH
      cases hm : memB q X with
      | false =>
        rw [hm] at HH
        have HM : Hid (¬ memL q X) := (memB_false _ _).1 hm
        clear hm
        have h0k : ((0 : Int) == k) = false := by rw [beq_eq_false_iff_ne]; omega
        go_wp2_with fail
        refine HH.mono ?_
        rintro e z4 ⟨rfl, hx4⟩
        go_wp2_with fail
        go_roundw
        case rel => exact ⟨q + 1, 0, by omega, by go_num, rfl, HFt.out.out HM.out (by omega), hx.trans hx4⟩
        case measure => simp [intOf]; omega
      | true =>
        rw [hm] at HH
        have HM : Hid (memL q X) := (memB_iff _ _).1 hm
        clear hm
        by_cases hrk : row + 1 = k
        · have hv := fst_hit HX.out.2.2.2 hk1.1 (HFt.out.hit HX.out.1 (fun j hj => (HX.out.2.1 j hj).1) HM.out hrk)
          rw [HVE.out.1, HVE.out.2] at hv
          obtain ⟨hv1, hv2⟩ := hv
          have hv3 : V = (q : Int) - k + 1 := by omega
          have dk : (row + 1 == k) = true := by simp [hrk]
          have dE : (E == 0) = true := by simp [hv2]
          have dV : (V == (q : Int) - k + 1) = true := by simp [hv3]
          clear hv1 hv2 hv3 hrk
          go_wp2_with fail
          refine HH.mono ?_
          rintro e z4 ⟨rfl, hx4⟩
          go_wp2_with fail
          go_ret
          exact ⟨ret_boolS (by simp), HX3.out.2.trans (hx.trans hx4)⟩
        · have dk : (row + 1 == k) = false := by simp [hrk]
          have HRK : Hid (row + 1 < k) := by show _ < _; omega
          clear hrk
          go_wp2_with fail
          refine HH.mono ?_
          rintro e z4 ⟨rfl, hx4⟩
          go_wp2_with fail
          go_roundw
          case rel => exact ⟨q + 1, row + 1, by omega, by go_num, by go_num, HFt.out.in HM.out HRK.out, hx.trans hx4⟩
          case measure => simp [intOf]; omega
    · obtain rfl : q = 400 := by omega
      have hv := fst_miss HX.out.2.2.2 hk1.1 (HFt.out.miss HX.out.2.1)
      rw [HVE.out.1, HVE.out.2] at hv
      obtain ⟨hv1, hv2⟩ := hv
      subst hv1 hv2
      go_wp2_with fail
      go_ret
      exact ⟨ret_boolS (by simp), HX3.out.2.trans hx⟩
end Go.Proofs.Ytfekiccjcfdmkab.spanFirstFits
