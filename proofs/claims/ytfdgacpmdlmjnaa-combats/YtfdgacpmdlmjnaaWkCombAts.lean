/-
  At every three numbers of type int comb.At and the document's own answer are the same, list and error; no condition.
-/
import Derived.Test.YtfdgacpmdlmjnaaRows
import Derived.WalkKit
import Derived.ProofKit
import Derived.OpenShut
import Derived.ChangeOld
import Derived.Below
import Derived.BigQuiet
import Derived.Deep.CutRange
import Derived.Deep.QuietTactic
import Derived.Deep.RegionLaw
import Derived.Test.YtfdgacpmdlmjnaaOpn
import Derived.Test.YtfdgacpmdlmjnaaChecked
import Derived.Test.YtfdgacpmdlmjnaaCombAt
import Derived.Test.YtfdgacpmdlmjnaaRefAt
import Derived.Test.YtfdgacpmdlmjnaaSameLaw
namespace Go.Proofs.Ytfdgacpmdlmjnaa.combAts
open Go.ChangeShapes Go.WideShapes Go.ChangeAt Go.RowKit
set_option linter.unusedVariables false
theorem nat_mays {n k : Int} (h : maysP n k) : ∃ N K : Nat, n = N ∧ k = K ∧ N ≤ 12 ∧ K ≤ N := ⟨n.toNat, k.toNat, by have := h.1.1; omega, by have := h.2.1; omega, by have := h.1.2; omega, by have := h.1.1; have := h.2.2; omega⟩
theorem ret_boolA {a b : Bool} (h : a = b) : Ending.returned (.bool a) = .returned (.bool b) := by rw [h]
set_option maxRecDepth 100000 in
set_option maxHeartbeats 4000000 in
theorem walk (a0 : Int) (a1 : Int) (a2 : Int) (w : World) (w0 : -9223372036854775808 ≤ a0 ∧ a0 ≤ 9223372036854775807) (w1 : -9223372036854775808 ≤ a1 ∧ a1 ≤ 9223372036854775807) (w2 : -9223372036854775808 ≤ a2 ∧ a2 ≤ 9223372036854775807) :
    Calls Try.prog 7 #[.int .i64 a0, .int .i64 a1, .int .i64 a2] w fun e w' => e = .returned (.bool true) ∧ Ext w w' := by
  by_cases hm : maysP a0 a1
  · obtain ⟨N, K, rfl, rfl, hN, hK⟩ := nat_mays hm
    clear hm
    by_cases hi : 0 ≤ a2 ∧ a2 < (cho N K : Int)
    · obtain ⟨i, rfl⟩ := Int.eq_ofNat_of_zero_le hi.1
      have hlt : i < (pk N K 0).length := by rw [pk_len]; omega
      obtain ⟨p, hp⟩ : ∃ p, (pk N K 0)[i]? = some p := ⟨_, List.getElem?_eq_getElem hlt⟩
      have HP : Hid ((pk N K 0)[i]? = some p) := hp
      clear hp hlt hi
      go_enter Try.func7, Try.ntmps7
      go_wp2_with fail
      refine (At_ok N K i p w hN hK HP.out).mono ?_
      rintro e w1 ⟨x, cx, rfl, hx1, hX⟩
      have HX : Hid (Ints w1 x K (pkF p)) := hX
      clear hX
      go_wp2_with fail
      refine (RCombAt_ok N K i p _ hN hK HP.out).mono ?_
      rintro e w2 ⟨y, cy, rfl, hx2, hY⟩
      have HY : Hid (Ints w2 y K (pkF p)) := hY
      clear hY
      go_wp2_with fail
      refine (sameInts_any x y K cx cy (pkF p) (pkF p) _ (by omega) (HX.out.ext hx2) HY.out (fun _ _ => rfl)).mono ?_
      rintro e w3 ⟨rfl, hx3⟩
      go_wp2_with fail
      go_ret
      exact ⟨ret_boolA (by simp), (hx1.trans hx2).trans hx3⟩
    · have hno : a2 < 0 ∨ (cho N K : Int) ≤ a2 := by omega
      have HN : Hid (a2 < 0 ∨ (cho N K : Int) ≤ a2) := hno
      clear hi hno
      go_enter Try.func7, Try.ntmps7
      go_wp2_with fail
      refine (At_no N K a2 w hN hK HN.out).mono ?_
      rintro e w1 ⟨rfl, rfl⟩
      go_wp2_with fail
      refine (RCombAt_no N K a2 _ hN hK HN.out).mono ?_
      rintro e w2 ⟨rfl, hx2⟩
      go_wp2_with fail
      refine (sameInts_any none none 0 0 0 (fun _ => 0) (fun _ => 0) _ (by omega) (fun i hi => by omega) (fun i hi => by omega) (fun _ _ => rfl)).mono ?_
      rintro e w3 ⟨rfl, hx3⟩
      go_wp2_with fail
      go_ret
      exact ⟨ret_boolA (by simp), hx2.trans hx3⟩
  · have HM : Hid (¬ maysP a0 a1) := hm
    clear hm
    go_enter Try.func7, Try.ntmps7
    go_wp2_with fail
    refine (At_none a0 a1 a2 w HM.out).mono ?_
    rintro e w1 ⟨rfl, rfl⟩
    go_wp2_with fail
    refine (RCombAt_none a0 a1 a2 _ HM.out).mono ?_
    rintro e w2 ⟨rfl, rfl⟩
    go_wp2_with fail
    refine (sameInts_any none none 0 0 0 (fun _ => 0) (fun _ => 0) _ (by omega) (fun i hi => by omega) (fun i hi => by omega) (fun _ _ => rfl)).mono ?_
    rintro e w3 ⟨rfl, hx3⟩
    go_wp2_with fail
    go_ret
    exact ⟨ret_boolA (by simp), hx3⟩
end Go.Proofs.Ytfdgacpmdlmjnaa.combAts
