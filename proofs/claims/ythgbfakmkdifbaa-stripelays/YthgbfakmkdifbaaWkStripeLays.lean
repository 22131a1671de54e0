/-
  At every three ints and all bytes stripe.Lay and the document's own answer are the same, columns and error; no condition.
-/
import Derived.Test.YthgbfakmkdifbaaRows
import Derived.WalkKit
import Derived.ProofKit
import Derived.OpenShut
import Derived.ChangeOld
import Derived.Below
import Derived.BigQuiet
import Derived.Deep.CutRange
import Derived.Deep.QuietTactic
import Derived.Deep.RegionLaw
import Derived.Test.YthgbfakmkdifbaaOpn
import Derived.Test.YthgbfakmkdifbaaChecked
import Derived.Test.YthgbfakmkdifbaaLabOct
import Derived.Test.YthgbfakmkdifbaaStp
import Derived.Test.YthgbfakmkdifbaaStLayR
import Derived.Test.YthgbfakmkdifbaaSameB
namespace Go.Proofs.Ythgbfakmkdifbaa.stripeLays
open Go.ChangeShapes Go.WideShapes Go.ChangeAt Go.RowKit Go.Deep E
set_option linter.unusedVariables false

set_option maxRecDepth 100000 in
set_option maxHeartbeats 40000000 in
theorem walk (a0 : Int) (a1 : Int) (a2 : Int) (a3 : Option Addr) (n3 c3 : Nat) (f3 : Nat → E) (w : World) (w0 : -9223372036854775808 ≤ a0 ∧ a0 ≤ 9223372036854775807) (w1 : -9223372036854775808 ≤ a1 ∧ a1 ≤ 9223372036854775807) (w2 : -9223372036854775808 ≤ a2 ∧ a2 ≤ 9223372036854775807) (h3 : Byts w a3 n3 f3) (b3 : n3 ≤ c3 ∧ c3 ≤ 9223372036854775807) (z3 : c3 * 1 ≤ 140737488351232) :
    Calls Try.prog 3 #[.int .i64 a0, .int .i64 a1, .int .i64 a2, .slice a3 n3 c3] w fun e w' => e = .returned (.bool true) ∧ Ext w w' := by
  have HB : Hid (Byts w a3 n3 f3) := h3
  have hn : n3 ≤ 140737488351232 := by omega
  clear h3
  go_enter Try.func3, Try.ntmps3
  go_wp2_with fail
  refine (octets_any a3 n3 c3 f3 _ hn HB.out).mono ?_
  rintro e w1 ⟨⟨ax, cx, rfl, hX, hc1, hc2⟩, hx1⟩
  have HX : Hid (Byts w1 ax n3 f3) := hX
  clear hX
  go_wp2_with fail
  refine (Lay_any a0 a1 a2 ax n3 cx f3 _ (by omega) HX.out).mono ?_
  rintro e w2 ⟨hr, hx2⟩
  cases hk : stOkB a0 a1 a2 n3 with
  | false =>
    have hR := StripeLay_any a0 a1 a2 a3 n3 c3 f3 w2 (by omega) (HB.out.ext (hx1.trans hx2))
    unfold LayRes at hr
    simp only [LayRes] at hR
    rw [hk, if_neg (by simp)] at hr
    simp only [hk, Bool.false_eq_true, if_false] at hR
    subst hr
    obtain ⟨E, hE⟩ : ∃ E, stE a0 a1 a2 n3 = E := ⟨_, rfl⟩
    rw [hE] at hR
    rw [hE]
    clear hE hk
    go_wp2_with fail
    refine hR.mono ?_
    rintro e w3 ⟨rfl, hx3⟩
    have hk2 : (E == E) = true := by simp
    go_wp2_with fail
    refine (sameListsL_any none none 0 0 0 (fun _ => none) (fun _ => none) (fun _ => 0) (fun _ => 0) (fun _ => 0) (fun _ => 0) (fun _ _ => f3 0) (fun _ _ => f3 0) _ (by omega) (fun r hr => by omega) (fun r hr => by omega) (fun r hr => by omega)).mono ?_
    rintro e w4 ⟨rfl, hx4⟩
    go_wp2_with fail
    go_ret
    exact ⟨ret_boolB (by simp), ((hx1.trans hx2).trans hx3).trans hx4⟩
  | true =>
    have hR := StripeLay_any a0 a1 a2 a3 n3 c3 f3 w2 (by omega) (HB.out.ext (hx1.trans hx2))
    obtain ⟨x, y, z, e0, e1, e2, hz, ho, hs⟩ := stOk_nat hk
    have HO : Hid (StOk x y (secs n3)) := ho
    unfold LayRes at hr
    simp only [LayRes] at hR
    rw [hk, if_pos rfl] at hr
    simp only [hk, if_true] at hR
    obtain ⟨b, c, A, C, rfl, hC⟩ := hr
    have hN := ho.N
    have e3 : a0.toNat = x := by omega
    have e4 : a1.toNat = y := by omega
    obtain ⟨N, hNN⟩ : ∃ N, colN x y (secs n3) = N := ⟨_, rfl⟩
    have HW : Hid (∀ r, r < N → wdB x y (secs n3) r ≤ 9223372036854775807) := fun r hr => by
      have := ho.wd (i := r) (by rw [hNN]; exact hr)
      omega
    rw [e3, e4, hNN] at hC hR
    rw [e3, e4, hNN]
    rw [hNN] at hN
    have HC : Hid (Cols w2 b N A (wdB x y (secs n3)) C (layF x y (secs n3) n3 f3)) := hC
    clear hC hk ho hs hNN e0 e1 e2 e3 e4
    go_wp2_with fail
    refine hR.mono ?_
    rintro e w3 ⟨⟨b', c', A', C', rfl, hC'⟩, hx3⟩
    have HC' : Hid (Cols w3 b' N A' (wdB x y (secs n3)) C' (layF x y (secs n3) n3 f3)) := hC'
    clear hC' hR
    have hk2 : ((0 : Int) == 0) = true := by simp
    go_wp2_with fail
    refine (sameListsL_any b b' N c c' A A' _ _ C C' _ _ _ (by omega) (HC.out.ext hx3) HC'.out (fun r hr => ⟨rfl, HW.out r hr, fun i _ => rfl⟩)).mono ?_
    rintro e w4 ⟨rfl, hx4⟩
    go_wp2_with fail
    go_ret
    exact ⟨ret_boolB (by simp), ((hx1.trans hx2).trans hx3).trans hx4⟩
end Go.Proofs.Ythgbfakmkdifbaa.stripeLays
