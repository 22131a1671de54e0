/-
  an inverse is one from both sides, and there is one just if the rows do not hang on each other (quicksetkeep.MatBoth returns true), at every argument; no condition.
-/
import Derived.Test.YtfnocamooapajabRows
import Derived.WalkKit
import Derived.ProofKit
import Derived.OpenShut
import Derived.ChangeOld
import Derived.Below
import Derived.Test.YtfnocamooapajabOpen
import Derived.Test.YtfnocamooapajabMatRE
import Derived.Test.YtfnocamooapajabKeepOne
import Derived.Test.YtfnocamooapajabSameKeep
namespace Go.Proofs.Ytfnocamooapajab.matBoth
open Go.ChangeShapes Go.WideShapes Go.ChangeAt Go.RowKit
set_option linter.unusedVariables false
theorem own : ownKnob Try.prog.godebug = none := by kernel_rfl
theorem laidOut : laidOutB Try.prog = true := by kernel_rfl

set_option maxRecDepth 100000 in
set_option maxHeartbeats 2000000 in
theorem walk (a0 : Option Addr) (n0 c0 : Nat) (f0 : Nat → Int) (a1 : Int) (w : World) (h0 : Ints w a0 n0 f0) (b0 : n0 ≤ 9223372036854775807 ∧ ∀ i, i < n0 → -9223372036854775808 ≤ f0 i ∧ f0 i ≤ 9223372036854775807) (w1 : -9223372036854775808 ≤ a1 ∧ a1 ≤ 9223372036854775807) :
    Calls Try.prog 3 #[.slice a0 n0 c0, .int .i64 a1] w fun e w' => e = .returned (.bool true) ∧ Ext w w' := by
  have HL : Hid (Ints w a0 n0 f0) := h0
  have BL : Hid (n0 ≤ 9223372036854775807 ∧ ∀ i, i < n0 → -9223372036854775808 ≤ f0 i ∧ f0 i ≤ 9223372036854775807) := b0
  clear h0 b0
  obtain ⟨n, hn⟩ : ∃ s, 1 + (a1 % 8).toNat = s := ⟨_, rfl⟩
  have kn : 1 ≤ n ∧ n ≤ 8 := hn ▸ side_bd a1
  have HN : Hid (1 + (a1 % 8).toNat = n) := hn
  clear hn
  go_enter Try.func3, Try.ntmps3
  go_wp2_with fail
  refine (side_nat a1 n _ w1 HN.out).mono ?_
  rintro e w' ⟨rfl, rfl⟩
  go_wp2_with fail
  refine (side_nat a1 n _ w1 HN.out).mono ?_
  rintro e w' ⟨rfl, rfl⟩
  go_wp2_with fail
  refine (MatrixOf_any a0 n0 c0 f0 n n _ (by omega) (by omega) BL.out.1 HL.out BL.out.2).mono ?_
  rintro e v1 ⟨⟨M, x, cx, Ax, Cx, rfl, hX⟩, x1⟩
  have HX : Hid (Mat v1 x n Ax (fun _ => n) Cx fun r i => E.ev (M r i)) := hX
  clear hX
  have hd := (redTo_le n M n).1
  by_cases hr : (redTo n M n).2 = n
  · go_wp2_with fail
    refine (Invert_yes x n cx Ax Cx M _ kn HX.out hr).mono ?_
    rintro e v2 ⟨⟨i, ci, Ai, Ci, rfl, hI⟩, x2⟩
    have HI : Hid (Mat v2 i n Ai (fun _ => n) Ci fun r i => E.ev (invM n M r i)) := hI
    clear hI
    have HR : Hid ((redTo n M n).2 = n) := hr
    clear hr
    go_wp2_with fail
    refine (Rank_E x n cx Ax Cx M _ kn (HX.out.ext x2)).mono ?_
    rintro e v3 ⟨rfl, x3⟩
    rw [HR.out]
    have k1 : ((n : Int) == (n : Int)) = true := by simp
    go_wp2_with fail
    refine (Mul_E x i n cx n ci n Ax Ai Cx Ci M (invM n M) _ kn kn kn (HX.out.ext (x2.trans x3)) (HI.out.ext x3)).mono ?_
    rintro e v4 ⟨⟨a, ca, Aa, Ca, rfl, hA⟩, x4⟩
    have HA : Hid (Mat v4 a n Aa (fun _ => n) Ca fun r i => E.ev (mm n M (invM n M) r i)) := hA
    clear hA
    go_wp2_with fail
    refine (Mul_E i x n ci n cx n Ai Ax Ci Cx (invM n M) M _ kn kn kn (HI.out.ext (x3.trans x4)) (HX.out.ext ((x2.trans x3).trans x4))).mono ?_
    rintro e v5 ⟨⟨b, cb, Ab, Cb, rfl, hB⟩, x5⟩
    have HB : Hid (Mat v5 b n Ab (fun _ => n) Cb fun r i => E.ev (mm n (invM n M) M r i)) := hB
    clear hB
    go_wp2_with fail
    refine (One_any n _ kn.2).mono ?_
    rintro e v6 ⟨⟨o, co, Ao, Co, rfl, hO⟩, x6⟩
    have HO : Hid (Mat v6 o n Ao (fun _ => n) Co fun r i => E.ev (E.dl r i)) := hO
    clear hO
    go_wp2_with fail
    refine (ksameMatrix_any a o n ca co Aa Ao _ _ Ca Co _ _ _ (by omega) (HA.out.ext (x5.trans x6)) HO.out (fun r hr => ⟨rfl, (by show n ≤ _; omega), fun i hi => congrArg E.ev (inv_right HR.out r i hr)⟩)).mono ?_
    rintro e v7 ⟨rfl, x7⟩
    go_wp2_with fail
    refine (One_any n _ kn.2).mono ?_
    rintro e v8 ⟨⟨o', co', Ao', Co', rfl, hO'⟩, x8⟩
    have HO' : Hid (Mat v8 o' n Ao' (fun _ => n) Co' fun r i => E.ev (E.dl r i)) := hO'
    clear hO'
    go_wp2_with fail
    refine (ksameMatrix_any b o' n cb co' Ab Ao' _ _ Cb Co' _ _ _ (by omega) (HB.out.ext ((x6.trans x7).trans x8)) HO'.out (fun r hr => ⟨rfl, (by show n ≤ _; omega), fun i hi => congrArg E.ev (inv_left HR.out r i hr hi)⟩)).mono ?_
    rintro e v9 ⟨rfl, x9⟩
    go_wp2_with fail
    go_ret
    exact ⟨rfl, (((((((x1.trans x2).trans x3).trans x4).trans x5).trans x6).trans x7).trans x8).trans x9⟩
  · have hlt : (redTo n M n).2 < n := by omega
    go_wp2_with fail
    refine (Invert_no x n cx Ax Cx M _ kn HX.out hlt).mono ?_
    rintro e v2 ⟨⟨i, ci, Ai, Ci, rfl, hI⟩, x2⟩
    clear hI
    go_wp2_with fail
    refine (Rank_E x n cx Ax Cx M _ kn (HX.out.ext x2)).mono ?_
    rintro e v3 ⟨rfl, x3⟩
    have k1 : (((redTo n M n).2 : Int) == (n : Int)) = false := by rw [beq_eq_false_iff_ne]; omega
    go_wp2_with fail
    go_ret
    exact ⟨rfl, (x1.trans x2).trans x3⟩
set_option maxRecDepth 100000 in
theorem lifted (os : Os) (started : os.Started) (H : Type) (enc : TypeId × Value → H) :
    ReturnsInHanded {} Try.checked os 3 .any (Rows.matBothSpec.pre6 enc Try.prog Try.f3 Rows.matBothRow.domain false) (Rows.matBothSpec.post enc Try.prog Try.f3 false true false false) := by
  refine returnsInHanded_of_change (C := Try.checked) own started (by kernel_rfl) Try.func3
    (ChangeSpec.witness6 (enc := enc) (C := Try.checked) false ⟨#[], #[.slice none 0 0, .int .i64 0], []⟩ 8 (by kernel_rfl) (by kernel_rfl) (by kernel_rfl) (by kernel_rfl)) ?_
  intro W base args ds gs before hval0 hW hcnd _
  have hval : ∀ (j : Nat) t v, Try.f3.params[j]? = some t → args[j]? = some v → Value.okWide Try.prog W .any base t v := hval0
  have hW' := hW
  obtain ⟨p, q, hA0, hV, rfl, hfz, hnd⟩ := hW
  have hA : DataW.TrodAll enc Try.prog W 0 (fun _ => true) true Try.f3.params.toList args.toList ds p := hA0
  rw [Try.params3] at hA hval
  obtain ⟨v0, vs0, d0, ds0, p0, q0, hargs, rfl, rfl, h0, r0⟩ := trodAll_cons hA
  obtain ⟨v1, vs1, d1, ds1, p1, q1, rfl, rfl, rfl, h1, r1⟩ := trodAll_cons r0
  obtain ⟨rfl, rfl, rfl⟩ := trodAll_nil r1
  obtain rfl : args = #[v0, v1] := by cases args; simp_all
  obtain ⟨rfl, rfl⟩ := trodVars_none hV
  obtain ⟨a0, n0, c0, rfl⟩ := okWide_slice Try.underlying22 (hval 0 22 v0 rfl rfl)
  have k0 := h0
  have lt0 : ∀ x ∈ p0, x.block < W.heap.size := by obtain ⟨m, hm⟩ := k0; exact DataW.trod_lt m _ _ _ hm
  obtain ⟨f0, i0, b0⟩ := ints_of_trod Try.underlying22 Try.underlying3 (by kernel_rfl) h0
  obtain ⟨a1, rfl, rfl, rfl, w1⟩ := open_int Try.underlying3 (hval 1 3 v1 rfl rfl) h1
  clear hA0 hval0
  refine (walk a0 n0 c0 f0 a1 W i0 b0 (bounds_i64 w1)).mono fun e W' ⟨he, hx⟩ => ?_
  subst he
  have bel := hx.below
  exact ⟨_, rfl, _, _, _, [], _, [], hW', trodAll_mk1 (shut_bool Try.underlying4 _), (trodAll_cons_mk (Below.trod laidOut (by kernel_rfl) (of_decide_eq_true (by kernel_rfl)) k0 bel lt0) (trodAll_cons_mk (shut_int Try.underlying3 w1) trodAll_mk0)), rfl, bel.frame _, fun h => by cases h⟩
theorem over : Rows.matBothRow.holds Try.pinned (OpenSpec.ofChange Rows.matBothSpec) :=
  OpenClaim.holds_of_wide 3 Try.f3 rfl rfl rfl rfl rfl rfl rfl ⟨rfl, rfl, rfl, rfl, rfl⟩ rfl rfl rfl rfl rfl (by kernel_rfl) Try.func3 (by kernel_rfl)
    (of_decide_eq_true (by kernel_rfl)) (by unfold Func.isWrapper; first | (rw [if_pos (by decide +kernel)]; kernel_rfl) | (rw [if_neg (by decide +kernel)]; exact ⟨rfl, rfl⟩))
    (fun os started H enc _ => lifted os started H enc)
end Go.Proofs.Ytfnocamooapajab.matBoth
namespace Go.Proofs.Ytfnocamooapajab
theorem matBoth_holds : Rows.MatBothSaid := matBoth.over
#print axioms matBoth_holds
end Go.Proofs.Ytfnocamooapajab
