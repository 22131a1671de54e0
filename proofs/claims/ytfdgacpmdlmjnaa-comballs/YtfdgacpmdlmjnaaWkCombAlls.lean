/-
  At every two numbers of type int comb.All and the document's own answer are the same, list and error; no condition.
-/
import Derived.Test.YtfdgacpmdlmjnaaRows
import Derived.WalkKit
import Derived.ProofKit
import Derived.OpenShut
import Derived.ChangeOld
import Derived.Below
import Derived.BigQuiet
import Derived.Deep.CutRange
import Derived.Deep.QuietTactic
import Derived.Deep.RegionLaw
import Derived.Test.YtfdgacpmdlmjnaaOpn
import Derived.Test.YtfdgacpmdlmjnaaChecked
import Derived.Test.YtfdgacpmdlmjnaaCombAllX
import Derived.Test.YtfdgacpmdlmjnaaPksMat
import Derived.Test.YtfdgacpmdlmjnaaSameLaw
namespace Go.Proofs.Ytfdgacpmdlmjnaa.combAlls
open Go.ChangeShapes Go.WideShapes Go.ChangeAt Go.RowKit
set_option linter.unusedVariables false
theorem nat_maysB {n k : Int} (h : maysP n k) : ∃ N K : Nat, n = N ∧ k = K ∧ N ≤ 12 ∧ K ≤ N := ⟨n.toNat, k.toNat, by have := h.1.1; omega, by have := h.2.1; omega, by have := h.1.2; omega, by have := h.1.1; have := h.2.2; omega⟩
theorem ret_boolM {a b : Bool} (h : a = b) : Ending.returned (.bool a) = .returned (.bool b) := by rw [h]
set_option maxRecDepth 100000 in
set_option maxHeartbeats 4000000 in
theorem walk (a0 : Int) (a1 : Int) (w : World) (w0 : -9223372036854775808 ≤ a0 ∧ a0 ≤ 9223372036854775807) (w1 : -9223372036854775808 ≤ a1 ∧ a1 ≤ 9223372036854775807) :
    Calls Try.prog 5 #[.int .i64 a0, .int .i64 a1] w fun e w' => e = .returned (.bool true) ∧ Ext w w' := by
  by_cases hm : maysP a0 a1
  · obtain ⟨N, K, rfl, rfl, hN, hK⟩ := nat_maysB hm
    clear hm
    obtain ⟨L, hL⟩ : ∃ L, pk N K 0 = L := ⟨_, rfl⟩
    have hLl : L.length ≤ 924 := by rw [← hL, pk_len]; exact cho_le N (by omega) K (by omega)
    have hrl : ∀ r, r < L.length → pkL L r ≤ 9223372036854775807 := fun r hr => by
      obtain ⟨p, hp⟩ : ∃ p, L[r]? = some p := ⟨_, List.getElem?_eq_getElem hr⟩
      have := (pk_mem N K 0 p (by rw [hL]; exact List.mem_of_getElem? hp)).1
      unfold pkL
      rw [hp]
      show p.length ≤ _
      omega
    have HR : Hid (∀ r, r < L.length → pkL L r ≤ 9223372036854775807) := hrl
    have HL : Hid (pk N K 0 = L) := hL
    clear hL hrl
    go_enter Try.func5, Try.ntmps5
    go_wp2_with fail
    refine (All_ok N K w hN hK).mono ?_
    rw [HL.out]
    rintro e w1 ⟨x, vx, rfl, hX⟩
    obtain ⟨ax, cx, rfl, _⟩ := own_slice hX.top
    obtain ⟨Ax, Cx, hMx⟩ := hX.mat
    have HX : Hid (Mat w1 ax L.length Ax (pkL L) Cx (pkM L)) := hMx
    have hx1 := hX.ext
    clear hX hMx
    go_wp2_with fail
    refine (CombAll_ok N K _ hN hK).mono ?_
    rw [HL.out]
    rintro e w2 ⟨y, vy, rfl, hY⟩
    obtain ⟨ay, cy, rfl, _⟩ := own_slice hY.top
    obtain ⟨Ay, Cy, hMy⟩ := hY.mat
    have HY : Hid (Mat w2 ay L.length Ay (pkL L) Cy (pkM L)) := hMy
    have hx2 := hY.ext
    clear hY hMy
    go_wp2_with fail
    refine (sameMatrix_any ax ay L.length cx cy Ax Ay _ _ Cx Cy _ _ _ (by omega) (HX.out.ext hx2) HY.out (fun r hr => ⟨rfl, HR.out r hr, fun i _ => rfl⟩)).mono ?_
    rintro e w3 ⟨rfl, hx3⟩
    go_wp2_with fail
    go_ret
    exact ⟨ret_boolM (by simp), (hx1.trans hx2).trans hx3⟩
  · have HM : Hid (¬ maysP a0 a1) := hm
    clear hm
    go_enter Try.func5, Try.ntmps5
    go_wp2_with fail
    refine (All_no a0 a1 w HM.out).mono ?_
    rintro e w1 ⟨rfl, hx1⟩
    go_wp2_with fail
    refine (CombAll_no a0 a1 _ HM.out).mono ?_
    rintro e w2 ⟨rfl, rfl⟩
    go_wp2_with fail
    refine (sameMatrix_any none none 0 0 0 (fun _ => none) (fun _ => none) (fun _ => 0) (fun _ => 0) (fun _ => 0) (fun _ => 0) (fun _ _ => 0) (fun _ _ => 0) _ (by omega) (fun i hi => by omega) (fun i hi => by omega) (fun r hr => by omega)).mono ?_
    rintro e w3 ⟨rfl, hx3⟩
    go_wp2_with fail
    go_ret
    exact ⟨ret_boolM (by simp), hx1.trans hx3⟩
end Go.Proofs.Ytfdgacpmdlmjnaa.combAlls
