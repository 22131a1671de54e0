/-
  mat.Mul answers what the document's own function answers, matrix and error, at every two arguments of type [][]int; no condition.
-/
import Derived.Test.YtfnocamooapajaaRows
import Derived.WalkKit
import Derived.ProofKit
import Derived.OpenShut
import Derived.ChangeOld
import Derived.Below
import Derived.Test.YtfnocamooapajaaOpen
import Derived.Test.YtfnocamooapajaaRefMatMul
import Derived.Test.YtfnocamooapajaaSameLaw
namespace Go.Proofs.Ytfnocamooapajaa.matMuls
open Go.ChangeShapes Go.WideShapes Go.ChangeAt Go.RowKit
set_option linter.unusedVariables false
theorem own : ownKnob Try.prog.godebug = none := by kernel_rfl
theorem laidOut : laidOutB Try.prog = true := by kernel_rfl

set_option maxRecDepth 100000 in
set_option maxHeartbeats 2000000 in
theorem walk (a0 : Option Addr) (n0 c0 : Nat) (A0 : Nat → Option Addr) (L0 C0 : Nat → Nat) (F0 : Nat → Nat → Int) (a1 : Option Addr) (n1 c1 : Nat) (A1 : Nat → Option Addr) (L1 C1 : Nat → Nat) (F1 : Nat → Nat → Int) (w : World) (h0 : Mat w a0 n0 A0 L0 C0 F0) (b0 : n0 ≤ 9223372036854775807 ∧ ∀ r, r < n0 → L0 r ≤ 9223372036854775807 ∧ ∀ i, i < L0 r → -9223372036854775808 ≤ F0 r i ∧ F0 r i ≤ 9223372036854775807) (h1 : Mat w a1 n1 A1 L1 C1 F1) (b1 : n1 ≤ 9223372036854775807 ∧ ∀ r, r < n1 → L1 r ≤ 9223372036854775807 ∧ ∀ i, i < L1 r → -9223372036854775808 ≤ F1 r i ∧ F1 r i ≤ 9223372036854775807) :
    Calls Try.prog 4 #[.slice a0 n0 c0, .slice a1 n1 c1] w fun e w' => e = .returned (.bool true) ∧ Ext w w' := by
  have HH : Hid (Mat w a0 n0 A0 L0 C0 F0) := h0
  have HB : Hid (n0 ≤ 9223372036854775807 ∧ ∀ r, r < n0 → L0 r ≤ 9223372036854775807 ∧ ∀ i, i < L0 r → -9223372036854775808 ≤ F0 r i ∧ F0 r i ≤ 9223372036854775807) := b0
  have HI : Hid (Mat w a1 n1 A1 L1 C1 F1) := h1
  have HC : Hid (n1 ≤ 9223372036854775807 ∧ ∀ r, r < n1 → L1 r ≤ 9223372036854775807 ∧ ∀ i, i < L1 r → -9223372036854775808 ≤ F1 r i ∧ F1 r i ≤ 9223372036854775807) := b1
  clear h0 b0 h1 b1
  go_enter Try.func4, Try.ntmps4
  go_wp2_with fail
  refine (Mul_any2 a0 a1 n0 c0 n1 c1 A0 A1 L0 C0 L1 C1 F0 F1 _ HH.out HI.out).mono ?_
  rintro e w1 ⟨⟨x, cx, Ax, Cx, rfl, hX⟩, hx⟩
  have HX : Hid (Mat w1 x (mulN n0 L0 F0 n1 L1 F1) Ax (fun _ => L1 0) Cx (fun r i => E.ev (prodE L0 F0 F1 r i))) := hX
  clear hX
  go_wp2_with fail
  refine (MatMul_any a0 a1 n0 c0 n1 c1 A0 A1 L0 C0 L1 C1 F0 F1 _ (HH.out.ext hx) (HI.out.ext hx) HB.out.1 (fun r hr => (HB.out.2 r hr).1) HC.out.1 (fun r hr => (HC.out.2 r hr).1)).mono ?_
  rintro e w2 ⟨⟨y, cy, Ay, Cy, rfl, hY⟩, hy⟩
  have HY : Hid (Mat w2 y (mulN n0 L0 F0 n1 L1 F1) Ay (fun _ => L1 0) Cy (fun r i => E.ev (prodE L0 F0 F1 r i))) := hY
  clear hY
  go_wp2_with fail
  refine (sameMatrix_any x y (mulN n0 L0 F0 n1 L1 F1) cx cy Ax Ay _ _ Cx Cy _ _ _ ?_ (HX.out.ext hy) HY.out ?_).mono ?_
  · have h9 := HB.out.1
    unfold mulN
    split <;> (try split) <;> (try split) <;> omega
  · intro r hr
    refine ⟨rfl, ?_, fun _ _ => rfl⟩
    have h8 : mayB n1 L1 F1 = true := by
      cases e : mayB n1 L1 F1
      · rw [(mul_form' e).2] at hr; omega
      · rfl
    have h9 := (mayB_of h8).2.1
    show L1 0 ≤ _
    omega
  rintro e w3 ⟨rfl, hz⟩
  go_wp2_with fail
  go_ret
  exact ⟨rfl, (hx.trans hy).trans hz⟩
set_option maxRecDepth 100000 in
theorem lifted (os : Os) (started : os.Started) (H : Type) (enc : TypeId × Value → H) :
    ReturnsInHanded {} Try.checked os 4 .any (Rows.matMulsSpec.pre6 enc Try.prog Try.f4 Rows.matMulsRow.domain false) (Rows.matMulsSpec.post enc Try.prog Try.f4 false true false false) := by
  refine returnsInHanded_of_change (C := Try.checked) own started (by kernel_rfl) Try.func4
    (ChangeSpec.witness6 (enc := enc) (C := Try.checked) false ⟨#[], #[.slice none 0 0, .slice none 0 0], []⟩ 8 (by kernel_rfl) (by kernel_rfl) (by kernel_rfl) (by kernel_rfl)) ?_
  intro W base args ds gs before hval0 hW hcnd _
  have hval : ∀ (j : Nat) t v, Try.f4.params[j]? = some t → args[j]? = some v → Value.okWide Try.prog W .any base t v := hval0
  have hW' := hW
  obtain ⟨p, q, hA0, hV, rfl, hfz, hnd⟩ := hW
  have hA : DataW.TrodAll enc Try.prog W 0 (fun _ => true) true Try.f4.params.toList args.toList ds p := hA0
  rw [Try.params4] at hA hval
  obtain ⟨v0, vs0, d0, ds0, p0, q0, hargs, rfl, rfl, h0, r0⟩ := trodAll_cons hA
  obtain ⟨v1, vs1, d1, ds1, p1, q1, rfl, rfl, rfl, h1, r1⟩ := trodAll_cons r0
  obtain ⟨rfl, rfl, rfl⟩ := trodAll_nil r1
  obtain rfl : args = #[v0, v1] := by cases args; simp_all
  obtain ⟨rfl, rfl⟩ := trodVars_none hV
  obtain ⟨a0, n0, c0, rfl⟩ := okWide_slice Try.underlying22 (hval 0 22 v0 rfl rfl)
  have k0 := h0
  have lt0 : ∀ x ∈ p0, x.block < W.heap.size := by obtain ⟨m, hm⟩ := k0; exact DataW.trod_lt m _ _ _ hm
  obtain ⟨A0, L0, C0, F0, i0, b0⟩ := mat_of_trod Try.underlying22 Try.underlying28 Try.underlying3 (by kernel_rfl) (by kernel_rfl) h0
  obtain ⟨a1, n1, c1, rfl⟩ := okWide_slice Try.underlying22 (hval 1 22 v1 rfl rfl)
  have k1 := h1
  have lt1 : ∀ x ∈ p1, x.block < W.heap.size := by obtain ⟨m, hm⟩ := k1; exact DataW.trod_lt m _ _ _ hm
  obtain ⟨A1, L1, C1, F1, i1, b1⟩ := mat_of_trod Try.underlying22 Try.underlying28 Try.underlying3 (by kernel_rfl) (by kernel_rfl) h1
  clear hA0 hval0
  refine (walk a0 n0 c0 A0 L0 C0 F0 a1 n1 c1 A1 L1 C1 F1 W i0 b0 i1 b1).mono fun e W' ⟨he, hx⟩ => ?_
  subst he
  have bel := hx.below
  exact ⟨_, rfl, _, _, _, [], _, [], hW', trodAll_mk1 (shut_bool Try.underlying4 _), (trodAll_cons_mk (Below.trod laidOut (by kernel_rfl) (of_decide_eq_true (by kernel_rfl)) k0 bel lt0) (trodAll_cons_mk (Below.trod laidOut (by kernel_rfl) (of_decide_eq_true (by kernel_rfl)) k1 bel lt1) trodAll_mk0)), rfl, bel.frame _, fun h => by cases h⟩
theorem over : Rows.matMulsRow.holds Try.pinned (OpenSpec.ofChange Rows.matMulsSpec) :=
  OpenClaim.holds_of_wide 4 Try.f4 rfl rfl rfl rfl rfl rfl rfl ⟨rfl, rfl, rfl, rfl, rfl⟩ rfl rfl rfl rfl rfl (by kernel_rfl) Try.func4 (by kernel_rfl)
    (of_decide_eq_true (by kernel_rfl)) (by unfold Func.isWrapper; first | (rw [if_pos (by decide +kernel)]; kernel_rfl) | (rw [if_neg (by decide +kernel)]; exact ⟨rfl, rfl⟩))
    (fun os started H enc _ => lifted os started H enc)
end Go.Proofs.Ytfnocamooapajaa.matMuls
namespace Go.Proofs.Ytfnocamooapajaa
theorem matMuls_holds : Rows.MatMulsSaid := matMuls.over
#print axioms matMuls_holds
end Go.Proofs.Ytfnocamooapajaa
