/-
  At every list of columns and every number par.Encode and the document's own answer are the same; no condition.
-/
import Derived.Test.YtbngmmlmhmmpbaaRows
import Derived.WalkKit
import Derived.ProofKit
import Derived.OpenShut
import Derived.ChangeOld
import Derived.Below
import Derived.Test.YtbngmmlmhmmpbaaOpen
import Derived.Test.YtbngmmlmhmmpbaaOpenB
import Derived.Test.YtbngmmlmhmmpbaaRefEncode
import Derived.Test.YtbngmmlmhmmpbaaSameB
namespace Go.Proofs.Ytbngmmlmhmmpbaa.parEncodes
open Go.ChangeShapes Go.WideShapes Go.ChangeAt Go.RowKit
set_option linter.unusedVariables false
theorem own : ownKnob Try.prog.godebug = none := by kernel_rfl
theorem laidOut : laidOutB Try.prog = true := by kernel_rfl
theorem encN_le (n : Nat) (L : Nat → Nat) (p : Int) : encN n L p ≤ 3 := by
  unfold encN encOk
  cases h : pmayB n L && fromTo 1 3 p
  · rw [if_neg (by simp)]; omega
  · rw [if_pos rfl]
    rw [Bool.and_eq_true] at h
    have := fromTo_bd h.2
    omega
theorem encN_len (n : Nat) (L : Nat → Nat) (p : Int) (h : 0 < encN n L p) : L 0 ≤ 4096 := by
  unfold encN encOk at h
  cases hb : pmayB n L && fromTo 1 3 p
  · rw [if_neg (by rw [hb]; simp)] at h; omega
  · rw [Bool.and_eq_true] at hb
    have h1 := hb.1
    unfold pmayB at h1
    rw [Bool.and_eq_true] at h1
    have h2 := fromTo_bd h1.1
    exact (alikeB_of h1.2 (r := 0) (by omega)).2
set_option maxRecDepth 100000 in
set_option maxHeartbeats 2000000 in
theorem walk (a0 : Option Addr) (n0 c0 : Nat) (A0 : Nat → Option Addr) (L0 C0 : Nat → Nat) (F0 : Nat → Nat → E) (a1 : Int) (w : World) (h0 : Cols w a0 n0 A0 L0 C0 F0) (b0 : n0 ≤ c0 ∧ c0 ≤ 9223372036854775807 ∧ ∀ r, r < n0 → L0 r ≤ C0 r ∧ C0 r ≤ 9223372036854775807) (w1 : -9223372036854775808 ≤ a1 ∧ a1 ≤ 9223372036854775807) :
    Calls Try.prog 4 #[.slice a0 n0 c0, .int .i64 a1] w fun e w' => e = .returned (.bool true) ∧ Ext w w' := by
  have HH : Hid (Cols w a0 n0 A0 L0 C0 F0) := h0
  have hn : n0 ≤ 9223372036854775807 := Nat.le_trans b0.1 b0.2.1
  clear h0 b0
  go_enter Try.func4, Try.ntmps4
  go_wp2_with fail
  refine (Encode_any a0 n0 c0 A0 L0 C0 F0 a1 _ hn HH.out).mono ?_
  rintro e w1 ⟨⟨x, cx, Ax, Cx, rfl, hX⟩, hx1⟩
  have HX : Hid (Cols w1 x (encN n0 L0 a1) Ax (fun _ => L0 0) Cx (enc n0 F0)) := hX
  clear hX
  go_wp2_with fail
  refine (ParEncode_any a0 n0 c0 A0 L0 C0 F0 a1 _ hn (HH.out.ext hx1)).mono ?_
  rintro e w2 ⟨⟨y, cy, Ay, Cy, rfl, hY⟩, hx2⟩
  have HY : Hid (Cols w2 y (encN n0 L0 a1) Ay (fun _ => L0 0) Cy (enc n0 F0)) := hY
  clear hY
  have hle := encN_le n0 L0 a1
  go_wp2_with fail
  refine (sameListsL_any x y (encN n0 L0 a1) cx cy Ax Ay _ _ Cx Cy _ _ _ (by omega) (HX.out.ext hx2) HY.out (fun r hr => ⟨rfl, ?_, fun i _ => rfl⟩)).mono ?_
  · have := encN_len n0 L0 a1 (by omega)
    show L0 0 ≤ _
    omega
  rintro e w3 ⟨rfl, hx3⟩
  go_wp2_with fail
  go_ret
  exact ⟨ret_boolB (by simp), (hx1.trans hx2).trans hx3⟩
set_option maxRecDepth 100000 in
theorem lifted (os : Os) (started : os.Started) (H : Type) (enc : TypeId × Value → H) :
    ReturnsInHanded {} Try.checked os 4 .any (Rows.parEncodesSpec.pre6 enc Try.prog Try.f4 Rows.parEncodesRow.domain false) (Rows.parEncodesSpec.post enc Try.prog Try.f4 false true false false) := by
  refine returnsInHanded_of_change (C := Try.checked) own started (by kernel_rfl) Try.func4
    (ChangeSpec.witness6 (enc := enc) (C := Try.checked) false ⟨#[], #[.slice none 0 0, .int .i64 0], []⟩ 8 (by kernel_rfl) (by kernel_rfl) (by kernel_rfl) (by kernel_rfl)) ?_
  intro W base args ds gs before hval0 hW hcnd _
  have hval : ∀ (j : Nat) t v, Try.f4.params[j]? = some t → args[j]? = some v → Value.okWide Try.prog W .any base t v := hval0
  have hW' := hW
  obtain ⟨p, q, hA0, hV, rfl, hfz, hnd⟩ := hW
  have hA : DataW.TrodAll enc Try.prog W 0 (fun _ => true) true Try.f4.params.toList args.toList ds p := hA0
  rw [Try.params4] at hA hval
  obtain ⟨v0, vs0, d0, ds0, p0, q0, hargs, rfl, rfl, h0, r0⟩ := trodAll_cons hA
  obtain ⟨v1, vs1, d1, ds1, p1, q1, rfl, rfl, rfl, h1, r1⟩ := trodAll_cons r0
  obtain ⟨rfl, rfl, rfl⟩ := trodAll_nil r1
  obtain rfl : args = #[v0, v1] := by cases args; simp_all
  obtain ⟨rfl, rfl⟩ := trodVars_none hV
  obtain ⟨a0, n0, c0, rfl⟩ := okWide_slice Try.underlying22 (hval 0 22 v0 rfl rfl)
  have k0 := h0
  have lt0 : ∀ x ∈ p0, x.block < W.heap.size := by obtain ⟨m, hm⟩ := k0; exact DataW.trod_lt m _ _ _ hm
  obtain ⟨A0, L0, C0, F0, i0, b0⟩ := cols_of_trod Try.underlying22 Try.underlying32 Try.underlying5 (by kernel_rfl) (by kernel_rfl) h0
  obtain ⟨a1, rfl, rfl, rfl, w1⟩ := open_int Try.underlying3 (hval 1 3 v1 rfl rfl) h1
  clear hA0 hval0
  refine (walk a0 n0 c0 A0 L0 C0 F0 a1 W i0 b0 (bounds_i64 w1)).mono fun e W' ⟨he, hx⟩ => ?_
  subst he
  have bel := hx.below
  exact ⟨_, rfl, _, _, _, [], _, [], hW', trodAll_mk1 (shut_bool Try.underlying4 _), (trodAll_cons_mk (Below.trod laidOut (by kernel_rfl) (of_decide_eq_true (by kernel_rfl)) k0 bel lt0) (trodAll_cons_mk (shut_int Try.underlying3 w1) trodAll_mk0)), rfl, bel.frame _, fun h => by cases h⟩
theorem over : Rows.parEncodesRow.holds Try.pinned (OpenSpec.ofChange Rows.parEncodesSpec) :=
  OpenClaim.holds_of_wide 4 Try.f4 rfl rfl rfl rfl rfl rfl rfl ⟨rfl, rfl, rfl, rfl, rfl⟩ rfl rfl rfl rfl rfl (by kernel_rfl) Try.func4 (by kernel_rfl)
    (of_decide_eq_true (by kernel_rfl)) (by unfold Func.isWrapper; first | (rw [if_pos (by decide +kernel)]; kernel_rfl) | (rw [if_neg (by decide +kernel)]; exact ⟨rfl, rfl⟩))
    (fun os started H enc _ => lifted os started H enc)
end Go.Proofs.Ytbngmmlmhmmpbaa.parEncodes
namespace Go.Proofs.Ytbngmmlmhmmpbaa
theorem parEncodes_holds : Rows.ParEncodesSaid := parEncodes.over
#print axioms parEncodes_holds
end Go.Proofs.Ytbngmmlmhmmpbaa
