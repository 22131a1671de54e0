/-
  products of matrices go together in any way, and to apply the product is to apply one behind the other (quicksetkeep.MatTogether returns true), at every argument; no condition.
-/
import Derived.Test.YtfnocamooapajaaRows
import Derived.WalkKit
import Derived.ProofKit
import Derived.OpenShut
import Derived.ChangeOld
import Derived.Below
import Derived.Test.YtfnocamooapajaaOpen
import Derived.Test.YtfnocamooapajaaMatEA
import Derived.Test.YtfnocamooapajaaKeepMat
import Derived.Test.YtfnocamooapajaaSameKeep
namespace Go.Proofs.Ytfnocamooapajaa.matTogether
open Go.ChangeShapes Go.WideShapes Go.ChangeAt Go.RowKit
set_option linter.unusedVariables false
theorem own : ownKnob Try.prog.godebug = none := by kernel_rfl
theorem laidOut : laidOutB Try.prog = true := by kernel_rfl
open E in
theorem side_nat (a : Int) (x : Nat) (w : World) (ha : -9223372036854775808 ≤ a ∧ a ≤ 9223372036854775807) (hx : 1 + (a % 8).toNat = x) :
    Calls Try.prog 22 #[.int .i64 a] w fun e w' => e = .returned (.int .i64 x) ∧ w' = w := by
  rw [← hx]; exact kside_any a w ha
theorem side_bd (a : Int) : 1 ≤ 1 + (a % 8).toNat ∧ 1 + (a % 8).toNat ≤ 8 := by
  have h2 := Int.emod_lt_of_pos a (show (0 : Int) < 8 by omega)
  omega
set_option maxRecDepth 100000 in
set_option maxHeartbeats 2000000 in
theorem walk (a0 : Option Addr) (n0 c0 : Nat) (f0 : Nat → Int) (a1 : Option Addr) (n1 c1 : Nat) (f1 : Nat → Int) (a2 : Option Addr) (n2 c2 : Nat) (f2 : Nat → Int) (a3 : Int) (a4 : Int) (a5 : Int) (a6 : Int) (w : World) (h0 : Ints w a0 n0 f0) (b0 : n0 ≤ 9223372036854775807 ∧ ∀ i, i < n0 → -9223372036854775808 ≤ f0 i ∧ f0 i ≤ 9223372036854775807) (h1 : Ints w a1 n1 f1) (b1 : n1 ≤ 9223372036854775807 ∧ ∀ i, i < n1 → -9223372036854775808 ≤ f1 i ∧ f1 i ≤ 9223372036854775807) (h2 : Ints w a2 n2 f2) (b2 : n2 ≤ 9223372036854775807 ∧ ∀ i, i < n2 → -9223372036854775808 ≤ f2 i ∧ f2 i ≤ 9223372036854775807) (w3 : -9223372036854775808 ≤ a3 ∧ a3 ≤ 9223372036854775807) (w4 : -9223372036854775808 ≤ a4 ∧ a4 ≤ 9223372036854775807) (w5 : -9223372036854775808 ≤ a5 ∧ a5 ≤ 9223372036854775807) (w6 : -9223372036854775808 ≤ a6 ∧ a6 ≤ 9223372036854775807) :
    Calls Try.prog 8 #[.slice a0 n0 c0, .slice a1 n1 c1, .slice a2 n2 c2, .int .i64 a3, .int .i64 a4, .int .i64 a5, .int .i64 a6] w fun e w' => e = .returned (.bool true) ∧ Ext w w' := by
  have HL : Hid (Ints w a0 n0 f0) := h0
  have HM : Hid (Ints w a1 n1 f1) := h1
  have HN : Hid (Ints w a2 n2 f2) := h2
  have BL : Hid (n0 ≤ 9223372036854775807 ∧ ∀ i, i < n0 → -9223372036854775808 ≤ f0 i ∧ f0 i ≤ 9223372036854775807) := b0
  have BM : Hid (n1 ≤ 9223372036854775807 ∧ ∀ i, i < n1 → -9223372036854775808 ≤ f1 i ∧ f1 i ≤ 9223372036854775807) := b1
  have BN : Hid (n2 ≤ 9223372036854775807 ∧ ∀ i, i < n2 → -9223372036854775808 ≤ f2 i ∧ f2 i ≤ 9223372036854775807) := b2
  clear h0 h1 h2 b0 b1 b2
  obtain ⟨sa, ha⟩ : ∃ s, 1 + (a3 % 8).toNat = s := ⟨_, rfl⟩
  obtain ⟨sb, hb⟩ : ∃ s, 1 + (a4 % 8).toNat = s := ⟨_, rfl⟩
  obtain ⟨sc, hc⟩ : ∃ s, 1 + (a5 % 8).toNat = s := ⟨_, rfl⟩
  obtain ⟨sd, hd⟩ : ∃ s, 1 + (a6 % 8).toNat = s := ⟨_, rfl⟩
  have ka : 1 ≤ sa ∧ sa ≤ 8 := ha ▸ side_bd a3
  have kb : 1 ≤ sb ∧ sb ≤ 8 := hb ▸ side_bd a4
  have kc : 1 ≤ sc ∧ sc ≤ 8 := hc ▸ side_bd a5
  have kd : 1 ≤ sd ∧ sd ≤ 8 := hd ▸ side_bd a6
  have HA : Hid (1 + (a3 % 8).toNat = sa) := ha
  have HB : Hid (1 + (a4 % 8).toNat = sb) := hb
  have HC : Hid (1 + (a5 % 8).toNat = sc) := hc
  have HD : Hid (1 + (a6 % 8).toNat = sd) := hd
  clear ha hb hc hd
  have hsame : ((sa : Int) != (sa : Int)) = false := by simp
  go_enter Try.func8, Try.ntmps8
  go_wp2_with fail
  refine (side_nat a3 sa _ w3 HA.out).mono ?_
  rintro e w' ⟨rfl, rfl⟩
  go_wp2_with fail
  refine (side_nat a4 sb _ w4 HB.out).mono ?_
  rintro e w' ⟨rfl, rfl⟩
  go_wp2_with fail
  refine (MatrixOf_any a0 n0 c0 f0 sa sb _ (by omega) (by omega) BL.out.1 HL.out BL.out.2).mono ?_
  rintro e v1 ⟨⟨X, x, cx, Ax, Cx, rfl, hX⟩, x1⟩
  have HX : Hid (Mat v1 x sa Ax (fun _ => sb) Cx fun r i => E.ev (X r i)) := hX
  clear hX
  go_wp2_with fail
  refine (side_nat a4 sb _ w4 HB.out).mono ?_
  rintro e w' ⟨rfl, rfl⟩
  go_wp2_with fail
  refine (side_nat a5 sc _ w5 HC.out).mono ?_
  rintro e w' ⟨rfl, rfl⟩
  go_wp2_with fail
  refine (MatrixOf_any a1 n1 c1 f1 sb sc _ (by omega) (by omega) BM.out.1 (HM.out.ext x1) BM.out.2).mono ?_
  rintro e v2 ⟨⟨Y, y, cy, Ay, Cy, rfl, hY⟩, x2⟩
  have HY : Hid (Mat v2 y sb Ay (fun _ => sc) Cy fun r i => E.ev (Y r i)) := hY
  clear hY
  go_wp2_with fail
  refine (side_nat a5 sc _ w5 HC.out).mono ?_
  rintro e w' ⟨rfl, rfl⟩
  go_wp2_with fail
  refine (side_nat a6 sd _ w6 HD.out).mono ?_
  rintro e w' ⟨rfl, rfl⟩
  go_wp2_with fail
  refine (MatrixOf_any a2 n2 c2 f2 sc sd _ (by omega) (by omega) BN.out.1 (HN.out.ext (x1.trans x2)) BN.out.2).mono ?_
  rintro e v3 ⟨⟨Z, z, cz, Az, Cz, rfl, hZ⟩, x3⟩
  have HZ : Hid (Mat v3 z sc Az (fun _ => sd) Cz fun r i => E.ev (Z r i)) := hZ
  clear hZ
  go_wp2_with fail
  refine (Mul_E x y sa cx sb cy sc Ax Ay Cx Cy X Y _ ka kb kc (HX.out.ext (x2.trans x3)) (HY.out.ext x3)).mono ?_
  rintro e v4 ⟨⟨xy, cxy, Axy, Cxy, rfl, hXY⟩, x4⟩
  have HXY : Hid (Mat v4 xy sa Axy (fun _ => sc) Cxy fun r i => E.ev (mm sb X Y r i)) := hXY
  clear hXY
  go_wp2_with fail
  refine (Mul_E y z sb cy sc cz sd Ay Az Cy Cz Y Z _ kb kc kd (HY.out.ext (x3.trans x4)) (HZ.out.ext x4)).mono ?_
  rintro e v5 ⟨⟨yz, cyz, Ayz, Cyz, rfl, hYZ⟩, x5⟩
  have HYZ : Hid (Mat v5 yz sb Ayz (fun _ => sd) Cyz fun r i => E.ev (mm sc Y Z r i)) := hYZ
  clear hYZ
  go_wp2_with fail
  refine (Mul_E xy z sa cxy sc cz sd Axy Az Cxy Cz (mm sb X Y) Z _ ka kc kd (HXY.out.ext x5) (HZ.out.ext (x4.trans x5))).mono ?_
  rintro e v6 ⟨⟨p, cp, Ap, Cp, rfl, hP⟩, x6⟩
  have HP : Hid (Mat v6 p sa Ap (fun _ => sd) Cp fun r i => E.ev (mm sc (mm sb X Y) Z r i)) := hP
  clear hP
  go_wp2_with fail
  refine (Mul_E x yz sa cx sb cyz sd Ax Ayz Cx Cyz X (mm sc Y Z) _ ka kb kd (HX.out.ext ((((x2.trans x3).trans x4).trans x5).trans x6)) (HYZ.out.ext x6)).mono ?_
  rintro e v7 ⟨⟨q, cq, Aq, Cq, rfl, hQ⟩, x7⟩
  have HQ : Hid (Mat v7 q sa Aq (fun _ => sd) Cq fun r i => E.ev (mm sb X (mm sc Y Z) r i)) := hQ
  clear hQ
  go_wp2_with fail
  refine (side_nat a3 sa _ w3 HA.out).mono ?_
  rintro e w' ⟨rfl, rfl⟩
  go_wp2_with fail
  refine (ksameMatrix_any p q sa cp cq Ap Aq _ _ Cp Cq _ _ _ (by omega) (HP.out.ext x7) HQ.out (fun r _ => ⟨rfl, (by show sd ≤ _; omega), fun i _ => congrArg E.ev (mm_assoc sb sc X Y Z r i)⟩)).mono ?_
  rintro e v8 ⟨rfl, x8⟩
  go_wp2_with fail
  refine (side_nat a5 sc _ w5 HC.out).mono ?_
  rintro e w' ⟨rfl, rfl⟩
  go_wp2_with fail
  refine (MatrixOf_any a2 n2 c2 f2 1 sc _ (by omega) (by omega) BN.out.1 (HN.out.ext (((((((x1.trans x2).trans x3).trans x4).trans x5).trans x6).trans x7).trans x8)) BN.out.2).mono ?_
  rintro e v9 ⟨⟨V, v, cv, Av, Cv, rfl, hV⟩, x9⟩
  obtain ⟨bv, ov, rfl, hcv⟩ := hV.at (by omega)
  have hc0 := hcv 0 (by omega)
  rw [Nat.add_zero] at hc0
  have HV : Hid (Ints v9 (Av 0) sc fun i => E.ev (V 0 i)) := hV.row (by omega)
  clear hV hcv
  go_wp2_with fail
  have x39 : Ext v3 v9 := (((((x4.trans x5).trans x6).trans x7).trans x8).trans x9)
  have x49 : Ext v4 v9 := ((((x5.trans x6).trans x7).trans x8).trans x9)
  refine (Apply_E y (Av 0) sb cy sc (Cv 0) Ay Cy Y (V 0) _ kb kc (HY.out.ext (x3.trans x39)) HV.out).mono ?_
  rintro e v10 ⟨⟨aw, cw, rfl, hW⟩, x10⟩
  have HW : Hid (Ints v10 aw sb fun r => E.ev (dot sc (Y r) (V 0))) := hW
  clear hW
  go_wp2_with fail
  refine (Apply_E x aw sa cx sb cw Ax Cx X (fun r => dot sc (Y r) (V 0)) _ ka kb (HX.out.ext (((x2.trans x3).trans x39).trans x10)) HW.out).mono ?_
  rintro e v11 ⟨⟨asx, cs, rfl, hS⟩, x11⟩
  have HS : Hid (Ints v11 asx sa fun r => E.ev (dot sb (X r) fun r => dot sc (Y r) (V 0))) := hS
  clear hS
  go_wp2_with fail
  refine (Apply_E xy (Av 0) sa cxy sc (Cv 0) Axy Cxy (mm sb X Y) (V 0) _ ka kc (HXY.out.ext ((x49.trans x10).trans x11)) (HV.out.ext (x10.trans x11))).mono ?_
  rintro e v12 ⟨⟨at', ct, rfl, hT⟩, x12⟩
  have HT : Hid (Ints v12 at' sa fun r => E.ev (dot sc (mm sb X Y r) (V 0))) := hT
  clear hT
  go_wp2_with fail
  refine (ksameInts_any asx at' sa cs ct _ _ _ (by omega) (HS.out.ext x12) HT.out (fun r _ => congrArg E.ev (dot_assoc sb sc (X r) Y (V 0)).symm)).mono ?_
  rintro e v13 ⟨rfl, x13⟩
  go_wp2_with fail
  go_ret
  exact ⟨rfl, (((((x1.trans x2).trans x3).trans x39).trans x10).trans x11).trans (x12.trans x13)⟩
set_option maxRecDepth 100000 in
theorem lifted (os : Os) (started : os.Started) (H : Type) (enc : TypeId × Value → H) :
    ReturnsInHanded {} Try.checked os 8 .any (Rows.matTogetherSpec.pre6 enc Try.prog Try.f8 Rows.matTogetherRow.domain false) (Rows.matTogetherSpec.post enc Try.prog Try.f8 false true false false) := by
  refine returnsInHanded_of_change (C := Try.checked) own started (by kernel_rfl) Try.func8
    (ChangeSpec.witness6 (enc := enc) (C := Try.checked) false ⟨#[], #[.slice none 0 0, .slice none 0 0, .slice none 0 0, .int .i64 0, .int .i64 0, .int .i64 0, .int .i64 0], []⟩ 8 (by kernel_rfl) (by kernel_rfl) (by kernel_rfl) (by kernel_rfl)) ?_
  intro W base args ds gs before hval0 hW hcnd _
  have hval : ∀ (j : Nat) t v, Try.f8.params[j]? = some t → args[j]? = some v → Value.okWide Try.prog W .any base t v := hval0
  have hW' := hW
  obtain ⟨p, q, hA0, hV, rfl, hfz, hnd⟩ := hW
  have hA : DataW.TrodAll enc Try.prog W 0 (fun _ => true) true Try.f8.params.toList args.toList ds p := hA0
  rw [Try.params8] at hA hval
  obtain ⟨v0, vs0, d0, ds0, p0, q0, hargs, rfl, rfl, h0, r0⟩ := trodAll_cons hA
  obtain ⟨v1, vs1, d1, ds1, p1, q1, rfl, rfl, rfl, h1, r1⟩ := trodAll_cons r0
  obtain ⟨v2, vs2, d2, ds2, p2, q2, rfl, rfl, rfl, h2, r2⟩ := trodAll_cons r1
  obtain ⟨v3, vs3, d3, ds3, p3, q3, rfl, rfl, rfl, h3, r3⟩ := trodAll_cons r2
  obtain ⟨v4, vs4, d4, ds4, p4, q4, rfl, rfl, rfl, h4, r4⟩ := trodAll_cons r3
  obtain ⟨v5, vs5, d5, ds5, p5, q5, rfl, rfl, rfl, h5, r5⟩ := trodAll_cons r4
  obtain ⟨v6, vs6, d6, ds6, p6, q6, rfl, rfl, rfl, h6, r6⟩ := trodAll_cons r5
  obtain ⟨rfl, rfl, rfl⟩ := trodAll_nil r6
  obtain rfl : args = #[v0, v1, v2, v3, v4, v5, v6] := by cases args; simp_all
  obtain ⟨rfl, rfl⟩ := trodVars_none hV
  obtain ⟨a0, n0, c0, rfl⟩ := okWide_slice Try.underlying28 (hval 0 28 v0 rfl rfl)
  have k0 := h0
  have lt0 : ∀ x ∈ p0, x.block < W.heap.size := by obtain ⟨m, hm⟩ := k0; exact DataW.trod_lt m _ _ _ hm
  obtain ⟨f0, i0, b0⟩ := ints_of_trod Try.underlying28 Try.underlying3 (by kernel_rfl) h0
  obtain ⟨a1, n1, c1, rfl⟩ := okWide_slice Try.underlying28 (hval 1 28 v1 rfl rfl)
  have k1 := h1
  have lt1 : ∀ x ∈ p1, x.block < W.heap.size := by obtain ⟨m, hm⟩ := k1; exact DataW.trod_lt m _ _ _ hm
  obtain ⟨f1, i1, b1⟩ := ints_of_trod Try.underlying28 Try.underlying3 (by kernel_rfl) h1
  obtain ⟨a2, n2, c2, rfl⟩ := okWide_slice Try.underlying28 (hval 2 28 v2 rfl rfl)
  have k2 := h2
  have lt2 : ∀ x ∈ p2, x.block < W.heap.size := by obtain ⟨m, hm⟩ := k2; exact DataW.trod_lt m _ _ _ hm
  obtain ⟨f2, i2, b2⟩ := ints_of_trod Try.underlying28 Try.underlying3 (by kernel_rfl) h2
  obtain ⟨a3, rfl, rfl, rfl, w3⟩ := open_int Try.underlying3 (hval 3 3 v3 rfl rfl) h3
  obtain ⟨a4, rfl, rfl, rfl, w4⟩ := open_int Try.underlying3 (hval 4 3 v4 rfl rfl) h4
  obtain ⟨a5, rfl, rfl, rfl, w5⟩ := open_int Try.underlying3 (hval 5 3 v5 rfl rfl) h5
  obtain ⟨a6, rfl, rfl, rfl, w6⟩ := open_int Try.underlying3 (hval 6 3 v6 rfl rfl) h6
  clear hA0 hval0
  refine (walk a0 n0 c0 f0 a1 n1 c1 f1 a2 n2 c2 f2 a3 a4 a5 a6 W i0 b0 i1 b1 i2 b2 (bounds_i64 w3) (bounds_i64 w4) (bounds_i64 w5) (bounds_i64 w6)).mono fun e W' ⟨he, hx⟩ => ?_
  subst he
  have bel := hx.below
  exact ⟨_, rfl, _, _, _, [], _, [], hW', trodAll_mk1 (shut_bool Try.underlying4 _), (trodAll_cons_mk (Below.trod laidOut (by kernel_rfl) (of_decide_eq_true (by kernel_rfl)) k0 bel lt0) (trodAll_cons_mk (Below.trod laidOut (by kernel_rfl) (of_decide_eq_true (by kernel_rfl)) k1 bel lt1) (trodAll_cons_mk (Below.trod laidOut (by kernel_rfl) (of_decide_eq_true (by kernel_rfl)) k2 bel lt2) (trodAll_cons_mk (shut_int Try.underlying3 w3) (trodAll_cons_mk (shut_int Try.underlying3 w4) (trodAll_cons_mk (shut_int Try.underlying3 w5) (trodAll_cons_mk (shut_int Try.underlying3 w6) trodAll_mk0))))))), rfl, bel.frame _, fun h => by cases h⟩
theorem over : Rows.matTogetherRow.holds Try.pinned (OpenSpec.ofChange Rows.matTogetherSpec) :=
  OpenClaim.holds_of_wide 8 Try.f8 rfl rfl rfl rfl rfl rfl rfl ⟨rfl, rfl, rfl, rfl, rfl⟩ rfl rfl rfl rfl rfl (by kernel_rfl) Try.func8 (by kernel_rfl)
    (of_decide_eq_true (by kernel_rfl)) (by unfold Func.isWrapper; first | (rw [if_pos (by decide +kernel)]; kernel_rfl) | (rw [if_neg (by decide +kernel)]; exact ⟨rfl, rfl⟩))
    (fun os started H enc _ => lifted os started H enc)
end Go.Proofs.Ytfnocamooapajaa.matTogether
namespace Go.Proofs.Ytfnocamooapajaa
theorem matTogether_holds : Rows.MatTogetherSaid := matTogether.over
#print axioms matTogether_holds
end Go.Proofs.Ytfnocamooapajaa
