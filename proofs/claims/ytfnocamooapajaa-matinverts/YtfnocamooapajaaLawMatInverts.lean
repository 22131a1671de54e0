/-
  mat.Invert answers what the document's own function answers, matrix and error, at every argument of type [][]int; no condition.
-/
import Derived.Test.YtfnocamooapajaaRows
import Derived.WalkKit
import Derived.ProofKit
import Derived.OpenShut
import Derived.ChangeOld
import Derived.Below
import Derived.Test.YtfnocamooapajaaOpen
import Derived.Test.YtfnocamooapajaaOpenCap
import Derived.Test.YtfnocamooapajaaRefInvert
import Derived.Test.YtfnocamooapajaaSameLaw
namespace Go.Proofs.Ytfnocamooapajaa.matInverts
open Go.ChangeShapes Go.WideShapes Go.ChangeAt Go.RowKit
set_option linter.unusedVariables false
theorem own : ownKnob Try.prog.godebug = none := by kernel_rfl
theorem laidOut : laidOutB Try.prog = true := by kernel_rfl

set_option maxRecDepth 100000 in
set_option maxHeartbeats 2000000 in
theorem walk (a0 : Option Addr) (n0 c0 : Nat) (A0 : Nat → Option Addr) (L0 C0 : Nat → Nat) (F0 : Nat → Nat → Int) (w : World) (h0 : Mat w a0 n0 A0 L0 C0 F0) (b0 : n0 ≤ 9223372036854775807 ∧ ∀ r, r < n0 → L0 r ≤ 9223372036854775807 ∧ L0 r ≤ C0 r ∧ ∀ i, i < L0 r → -9223372036854775808 ≤ F0 r i ∧ F0 r i ≤ 9223372036854775807) :
    Calls Try.prog 7 #[.slice a0 n0 c0] w fun e w' => e = .returned (.bool true) ∧ Ext w w' := by
  have HH : Hid (Mat w a0 n0 A0 L0 C0 F0) := h0
  have HB : Hid (n0 ≤ 9223372036854775807 ∧ ∀ r, r < n0 → L0 r ≤ 9223372036854775807 ∧ L0 r ≤ C0 r ∧ ∀ i, i < L0 r → -9223372036854775808 ≤ F0 r i ∧ F0 r i ≤ 9223372036854775807) := b0
  clear h0 b0
  go_enter Try.func7, Try.ntmps7
  go_wp2_with fail
  refine (Invert_any a0 n0 c0 A0 L0 C0 F0 _ HB.out.1 HH.out).mono ?_
  rintro e w1 ⟨⟨x, cx, Ax, Cx, rfl, hX⟩, hx⟩
  have HX : Hid (Mat w1 x (invN n0 L0 F0) Ax (fun _ => n0) Cx (fun r i => E.ev (invM n0 (elsOf F0) r i))) := hX
  clear hX
  go_wp2_with fail
  refine (MatInvert_any a0 n0 c0 A0 L0 C0 F0 _ (HH.out.ext hx) HB.out.1 (fun r hr => (HB.out.2 r hr).1) (fun r hr => (HB.out.2 r hr).2.1)).mono ?_
  rintro e w2 ⟨⟨y, cy, Ay, Cy, rfl, hY⟩, hy⟩
  have HY : Hid (Mat w2 y (invN n0 L0 F0) Ay (fun _ => n0) Cy (fun r i => E.ev (invM n0 (elsOf F0) r i))) := hY
  clear hY
  go_wp2_with fail
  refine (sameMatrix_any x y (invN n0 L0 F0) cx cy Ax Ay _ _ Cx Cy _ _ _ ?_ (HX.out.ext hy) HY.out ?_).mono ?_
  · have h9 := HB.out.1
    unfold invN
    split <;> (try split) <;> (try split) <;> omega
  · intro r hr
    exact ⟨rfl, HB.out.1, fun _ _ => rfl⟩
  rintro e w3 ⟨rfl, hz⟩
  go_wp2_with fail
  go_ret
  exact ⟨rfl, (hx.trans hy).trans hz⟩
set_option maxRecDepth 100000 in
theorem lifted (os : Os) (started : os.Started) (H : Type) (enc : TypeId × Value → H) :
    ReturnsInHanded {} Try.checked os 7 .any (Rows.matInvertsSpec.pre6 enc Try.prog Try.f7 Rows.matInvertsRow.domain false) (Rows.matInvertsSpec.post enc Try.prog Try.f7 false true false false) := by
  refine returnsInHanded_of_change (C := Try.checked) own started (by kernel_rfl) Try.func7
    (ChangeSpec.witness6 (enc := enc) (C := Try.checked) false ⟨#[], #[.slice none 0 0], []⟩ 8 (by kernel_rfl) (by kernel_rfl) (by kernel_rfl) (by kernel_rfl)) ?_
  intro W base args ds gs before hval0 hW hcnd _
  have hval : ∀ (j : Nat) t v, Try.f7.params[j]? = some t → args[j]? = some v → Value.okWide Try.prog W .any base t v := hval0
  have hW' := hW
  obtain ⟨p, q, hA0, hV, rfl, hfz, hnd⟩ := hW
  have hA : DataW.TrodAll enc Try.prog W 0 (fun _ => true) true Try.f7.params.toList args.toList ds p := hA0
  rw [Try.params7] at hA hval
  obtain ⟨v0, vs0, d0, ds0, p0, q0, hargs, rfl, rfl, h0, r0⟩ := trodAll_cons hA
  obtain ⟨rfl, rfl, rfl⟩ := trodAll_nil r0
  obtain rfl : args = #[v0] := by cases args; simp_all
  obtain ⟨rfl, rfl⟩ := trodVars_none hV
  obtain ⟨a0, n0, c0, rfl⟩ := okWide_slice Try.underlying22 (hval 0 22 v0 rfl rfl)
  have k0 := h0
  have lt0 : ∀ x ∈ p0, x.block < W.heap.size := by obtain ⟨m, hm⟩ := k0; exact DataW.trod_lt m _ _ _ hm
  obtain ⟨A0, L0, C0, F0, i0, b0⟩ := mat_caps_of_trod Try.underlying22 Try.underlying28 Try.underlying3 (by kernel_rfl) (by kernel_rfl) h0
  clear hA0 hval0
  refine (walk a0 n0 c0 A0 L0 C0 F0 W i0 b0).mono fun e W' ⟨he, hx⟩ => ?_
  subst he
  have bel := hx.below
  exact ⟨_, rfl, _, _, _, [], _, [], hW', trodAll_mk1 (shut_bool Try.underlying4 _), (trodAll_cons_mk (Below.trod laidOut (by kernel_rfl) (of_decide_eq_true (by kernel_rfl)) k0 bel lt0) trodAll_mk0), rfl, bel.frame _, fun h => by cases h⟩
theorem over : Rows.matInvertsRow.holds Try.pinned (OpenSpec.ofChange Rows.matInvertsSpec) :=
  OpenClaim.holds_of_wide 7 Try.f7 rfl rfl rfl rfl rfl rfl rfl ⟨rfl, rfl, rfl, rfl, rfl⟩ rfl rfl rfl rfl rfl (by kernel_rfl) Try.func7 (by kernel_rfl)
    (of_decide_eq_true (by kernel_rfl)) (by unfold Func.isWrapper; first | (rw [if_pos (by decide +kernel)]; kernel_rfl) | (rw [if_neg (by decide +kernel)]; exact ⟨rfl, rfl⟩))
    (fun os started H enc _ => lifted os started H enc)
end Go.Proofs.Ytfnocamooapajaa.matInverts
namespace Go.Proofs.Ytfnocamooapajaa
theorem matInverts_holds : Rows.MatInvertsSaid := matInverts.over
#print axioms matInverts_holds
end Go.Proofs.Ytfnocamooapajaa
