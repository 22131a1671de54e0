/-
  the inverse of a product is the product of the inverses the other way round, and no product has a greater rank than its parts (quicksetkeep.MatProduct returns true), at every argument; no condition.
-/
import Derived.Test.YtfnocamooapajabRows
import Derived.WalkKit
import Derived.ProofKit
import Derived.OpenShut
import Derived.ChangeOld
import Derived.Below
import Derived.Test.YtfnocamooapajabOpen
import Derived.Test.YtfnocamooapajabMatRE
import Derived.Test.YtfnocamooapajabSameKeep
namespace Go.Proofs.Ytfnocamooapajab.matProduct
open Go.ChangeShapes Go.WideShapes Go.ChangeAt Go.RowKit
set_option linter.unusedVariables false
theorem own : ownKnob Try.prog.godebug = none := by kernel_rfl
theorem laidOut : laidOutB Try.prog = true := by kernel_rfl

set_option maxRecDepth 100000 in
set_option maxHeartbeats 2000000 in
theorem walk (a0 : Option Addr) (n0 c0 : Nat) (f0 : Nat → Int) (a1 : Option Addr) (n1 c1 : Nat) (f1 : Nat → Int) (a2 : Int) (w : World) (h0 : Ints w a0 n0 f0) (b0 : n0 ≤ 9223372036854775807 ∧ ∀ i, i < n0 → -9223372036854775808 ≤ f0 i ∧ f0 i ≤ 9223372036854775807) (h1 : Ints w a1 n1 f1) (b1 : n1 ≤ 9223372036854775807 ∧ ∀ i, i < n1 → -9223372036854775808 ≤ f1 i ∧ f1 i ≤ 9223372036854775807) (w2 : -9223372036854775808 ≤ a2 ∧ a2 ≤ 9223372036854775807) :
    Calls Try.prog 4 #[.slice a0 n0 c0, .slice a1 n1 c1, .int .i64 a2] w fun e w' => e = .returned (.bool true) ∧ Ext w w' := by
  have HL : Hid (Ints w a0 n0 f0) := h0
  have BL : Hid (n0 ≤ 9223372036854775807 ∧ ∀ i, i < n0 → -9223372036854775808 ≤ f0 i ∧ f0 i ≤ 9223372036854775807) := b0
  have HM : Hid (Ints w a1 n1 f1) := h1
  have BM : Hid (n1 ≤ 9223372036854775807 ∧ ∀ i, i < n1 → -9223372036854775808 ≤ f1 i ∧ f1 i ≤ 9223372036854775807) := b1
  clear h0 b0 h1 b1
  obtain ⟨n, hn⟩ : ∃ s, 1 + (a2 % 8).toNat = s := ⟨_, rfl⟩
  have kn : 1 ≤ n ∧ n ≤ 8 := hn ▸ side_bd a2
  have HN : Hid (1 + (a2 % 8).toNat = n) := hn
  clear hn
  have hsame : ((n : Int) != (n : Int)) = false := by simp
  go_enter Try.func4, Try.ntmps4
  go_wp2_with fail
  refine (side_nat a2 n _ w2 HN.out).mono ?_
  rintro e w' ⟨rfl, rfl⟩
  go_wp2_with fail
  refine (side_nat a2 n _ w2 HN.out).mono ?_
  rintro e w' ⟨rfl, rfl⟩
  go_wp2_with fail
  refine (MatrixOf_any a0 n0 c0 f0 n n _ (by omega) (by omega) BL.out.1 HL.out BL.out.2).mono ?_
  rintro e v1 ⟨⟨X, x, cx, Ax, Cx, rfl, hX⟩, x1⟩
  have HX : Hid (Mat v1 x n Ax (fun _ => n) Cx fun r i => E.ev (X r i)) := hX
  clear hX
  go_wp2_with fail
  refine (side_nat a2 n _ w2 HN.out).mono ?_
  rintro e w' ⟨rfl, rfl⟩
  go_wp2_with fail
  refine (side_nat a2 n _ w2 HN.out).mono ?_
  rintro e w' ⟨rfl, rfl⟩
  go_wp2_with fail
  refine (MatrixOf_any a1 n1 c1 f1 n n _ (by omega) (by omega) BM.out.1 (HM.out.ext x1) BM.out.2).mono ?_
  rintro e v2 ⟨⟨Y, y, cy, Ay, Cy, rfl, hY⟩, x2⟩
  have HY : Hid (Mat v2 y n Ay (fun _ => n) Cy fun r i => E.ev (Y r i)) := hY
  clear hY
  have HX2 : Hid (Mat v2 x n Ax (fun _ => n) Cx fun r i => E.ev (X r i)) := HX.out.ext x2
  clear HX
  go_wp2_with fail
  refine (Mul_E x y n cx n cy n Ax Ay Cx Cy X Y _ kn kn kn HX2.out HY.out).mono ?_
  rintro e v3 ⟨⟨p, cp, Ap, Cp, rfl, hP⟩, x3⟩
  have HP : Hid (Mat v3 p n Ap (fun _ => n) Cp fun r i => E.ev (mmE n X Y r i)) := hP
  clear hP
  go_wp2_with fail
  refine (Rank_E x n cx Ax Cx X _ kn (HX2.out.ext x3)).mono ?_
  rintro e v4 ⟨rfl, x4⟩
  go_wp2_with fail
  refine (Rank_E y n cy Ay Cy Y _ kn (HY.out.ext (x3.trans x4))).mono ?_
  rintro e v5 ⟨rfl, x5⟩
  go_wp2_with fail
  refine (Rank_E p n cp Ap Cp (mmE n X Y) _ kn (HP.out.ext (x4.trans x5))).mono ?_
  rintro e v6 ⟨rfl, x6⟩
  have hrk := rank_mul n X Y
  have dx := (redTo_le n X n).1
  have dy := (redTo_le n Y n).1
  have dp := (redTo_le n (mmE n X Y) n).1
  have x26 : Ext v2 v6 := ((x3.trans x4).trans x5).trans x6
  have HX3 : Hid (Mat v6 x n Ax (fun _ => n) Cx fun r i => E.ev (X r i)) := HX2.out.ext x26
  have HY3 : Hid (Mat v6 y n Ay (fun _ => n) Cy fun r i => E.ev (Y r i)) := HY.out.ext x26
  have HP3 : Hid (Mat v6 p n Ap (fun _ => n) Cp fun r i => E.ev (mmE n X Y r i)) := HP.out.ext ((x4.trans x5).trans x6)
  have x06 := (x1.trans x2).trans x26
  clear HX2 HY HP x1 x2 x3 x4 x5 x6 x26
  by_cases hx : (redTo n X n).2 = n
  · by_cases hy : (redTo n Y n).2 = n
    · obtain ⟨hp, hu⟩ := inv_mul hx hy
      have HU : Hid (∀ i, i < n → ∀ k, k < n → mmE n (invM n Y) (invM n X) i k = invM n (mmE n X Y) i k) := hu
      have H1 : Hid ((redTo n X n).2 = n) := hx
      have H2 : Hid ((redTo n Y n).2 = n) := hy
      have H3 : Hid ((redTo n (mmE n X Y) n).2 = n) := hp
      rw [hx, hy, hp]
      clear hu hx hy hp hrk dx dy dp
      go_wp2_with fail
      refine (Invert_yes x n cx Ax Cx X _ kn HX3.out H1.out).mono ?_
      rintro e v7 ⟨⟨i, ci, Ai, Ci, rfl, hI⟩, x7⟩
      have HI : Hid (Mat v7 i n Ai (fun _ => n) Ci fun r i => E.ev (invM n X r i)) := hI
      clear hI
      go_wp2_with fail
      refine (Invert_yes y n cy Ay Cy Y _ kn (HY3.out.ext x7) H2.out).mono ?_
      rintro e v8 ⟨⟨j, cj, Aj, Cj, rfl, hJ⟩, x8⟩
      have HJ : Hid (Mat v8 j n Aj (fun _ => n) Cj fun r i => E.ev (invM n Y r i)) := hJ
      clear hJ
      go_wp2_with fail
      refine (Invert_yes p n cp Ap Cp (mmE n X Y) _ kn (HP3.out.ext (x7.trans x8)) H3.out).mono ?_
      rintro e v9 ⟨⟨k, ck, Ak, Ck, rfl, hK⟩, x9⟩
      have HK : Hid (Mat v9 k n Ak (fun _ => n) Ck fun r i => E.ev (invM n (mmE n X Y) r i)) := hK
      clear hK
      go_wp2_with fail
      refine (Mul_E j i n cj n ci n Aj Ai Cj Ci (invM n Y) (invM n X) _ kn kn kn (HJ.out.ext x9) (HI.out.ext (x8.trans x9))).mono ?_
      rintro e v10 ⟨⟨q, cq, Aq, Cq, rfl, hQ⟩, x10⟩
      have HQ : Hid (Mat v10 q n Aq (fun _ => n) Cq fun r i => E.ev (mmE n (invM n Y) (invM n X) r i)) := hQ
      clear hQ
      go_wp2_with fail
      refine (ksameMatrix_any q k n cq ck Aq Ak _ _ Cq Ck _ _ _ (by omega) HQ.out (HK.out.ext x10) (fun r hr => ⟨rfl, (by show n ≤ _; omega), fun i hi => congrArg E.ev (HU.out r hr i hi)⟩)).mono ?_
      rintro e v11 ⟨rfl, x11⟩
      go_wp2_with fail
      go_ret
      exact ⟨rfl, ((((x06.trans x7).trans x8).trans x9).trans x10).trans x11⟩
    · have hylt : (redTo n Y n).2 < n := by omega
      have hplt : (redTo n (mmE n X Y) n).2 < n := by omega
      have H1 : Hid ((redTo n X n).2 = n) := hx
      have H2 : Hid ((redTo n Y n).2 < n) := hylt
      have H3 : Hid ((redTo n (mmE n X Y) n).2 < n) := hplt
      have hmin : (redTo n Y n).2 < (redTo n X n).2 := by omega
      clear hx hy
      go_wp2_with fail
      refine (Invert_yes x n cx Ax Cx X _ kn HX3.out H1.out).mono ?_
      rintro e v7 ⟨⟨i, ci, Ai, Ci, rfl, hI⟩, x7⟩
      clear hI
      go_wp2_with fail
      refine (Invert_no y n cy Ay Cy Y _ kn (HY3.out.ext x7) H2.out).mono ?_
      rintro e v8 ⟨⟨j, cj, Aj, Cj, rfl, hJ⟩, x8⟩
      clear hJ
      go_wp2_with fail
      refine (Invert_no p n cp Ap Cp (mmE n X Y) _ kn (HP3.out.ext (x7.trans x8)) H3.out).mono ?_
      rintro e v9 ⟨⟨k, ck, Ak, Ck, rfl, hK⟩, x9⟩
      clear hK
      go_wp2_with fail
      go_ret
      exact ⟨rfl, ((x06.trans x7).trans x8).trans x9⟩
  · have hxlt : (redTo n X n).2 < n := by omega
    have hplt : (redTo n (mmE n X Y) n).2 < n := by omega
    have H1 : Hid ((redTo n X n).2 < n) := hxlt
    have H3 : Hid ((redTo n (mmE n X Y) n).2 < n) := hplt
    clear hx
    by_cases hy : (redTo n Y n).2 = n
    · have H2 : Hid ((redTo n Y n).2 = n) := hy
      have hmin : (redTo n X n).2 < (redTo n Y n).2 := by omega
      clear hy
      go_wp2_with fail
      refine (Invert_no x n cx Ax Cx X _ kn HX3.out H1.out).mono ?_
      rintro e v7 ⟨⟨i, ci, Ai, Ci, rfl, hI⟩, x7⟩
      clear hI
      go_wp2_with fail
      refine (Invert_yes y n cy Ay Cy Y _ kn (HY3.out.ext x7) H2.out).mono ?_
      rintro e v8 ⟨⟨j, cj, Aj, Cj, rfl, hJ⟩, x8⟩
      clear hJ
      go_wp2_with fail
      refine (Invert_no p n cp Ap Cp (mmE n X Y) _ kn (HP3.out.ext (x7.trans x8)) H3.out).mono ?_
      rintro e v9 ⟨⟨k, ck, Ak, Ck, rfl, hK⟩, x9⟩
      clear hK
      go_wp2_with fail
      go_ret
      exact ⟨rfl, ((x06.trans x7).trans x8).trans x9⟩
    · have hylt : (redTo n Y n).2 < n := by omega
      have H2 : Hid ((redTo n Y n).2 < n) := hylt
      clear hy
      by_cases hmin : (redTo n Y n).2 < (redTo n X n).2
      · go_wp2_with fail
        refine (Invert_no x n cx Ax Cx X _ kn HX3.out H1.out).mono ?_
        rintro e v7 ⟨⟨i, ci, Ai, Ci, rfl, hI⟩, x7⟩
        clear hI
        go_wp2_with fail
        refine (Invert_no y n cy Ay Cy Y _ kn (HY3.out.ext x7) H2.out).mono ?_
        rintro e v8 ⟨⟨j, cj, Aj, Cj, rfl, hJ⟩, x8⟩
        clear hJ
        go_wp2_with fail
        refine (Invert_no p n cp Ap Cp (mmE n X Y) _ kn (HP3.out.ext (x7.trans x8)) H3.out).mono ?_
        rintro e v9 ⟨⟨k, ck, Ak, Ck, rfl, hK⟩, x9⟩
        clear hK
        go_wp2_with fail
        go_ret
        exact ⟨rfl, ((x06.trans x7).trans x8).trans x9⟩
      · go_wp2_with fail
        refine (Invert_no x n cx Ax Cx X _ kn HX3.out H1.out).mono ?_
        rintro e v7 ⟨⟨i, ci, Ai, Ci, rfl, hI⟩, x7⟩
        clear hI
        go_wp2_with fail
        refine (Invert_no y n cy Ay Cy Y _ kn (HY3.out.ext x7) H2.out).mono ?_
        rintro e v8 ⟨⟨j, cj, Aj, Cj, rfl, hJ⟩, x8⟩
        clear hJ
        go_wp2_with fail
        refine (Invert_no p n cp Ap Cp (mmE n X Y) _ kn (HP3.out.ext (x7.trans x8)) H3.out).mono ?_
        rintro e v9 ⟨⟨k, ck, Ak, Ck, rfl, hK⟩, x9⟩
        clear hK
        go_wp2_with fail
        go_ret
        exact ⟨rfl, ((x06.trans x7).trans x8).trans x9⟩
set_option maxRecDepth 100000 in
theorem lifted (os : Os) (started : os.Started) (H : Type) (enc : TypeId × Value → H) :
    ReturnsInHanded {} Try.checked os 4 .any (Rows.matProductSpec.pre6 enc Try.prog Try.f4 Rows.matProductRow.domain false) (Rows.matProductSpec.post enc Try.prog Try.f4 false true false false) := by
  refine returnsInHanded_of_change (C := Try.checked) own started (by kernel_rfl) Try.func4
    (ChangeSpec.witness6 (enc := enc) (C := Try.checked) false ⟨#[], #[.slice none 0 0, .slice none 0 0, .int .i64 0], []⟩ 8 (by kernel_rfl) (by kernel_rfl) (by kernel_rfl) (by kernel_rfl)) ?_
  intro W base args ds gs before hval0 hW hcnd _
  have hval : ∀ (j : Nat) t v, Try.f4.params[j]? = some t → args[j]? = some v → Value.okWide Try.prog W .any base t v := hval0
  have hW' := hW
  obtain ⟨p, q, hA0, hV, rfl, hfz, hnd⟩ := hW
  have hA : DataW.TrodAll enc Try.prog W 0 (fun _ => true) true Try.f4.params.toList args.toList ds p := hA0
  rw [Try.params4] at hA hval
  obtain ⟨v0, vs0, d0, ds0, p0, q0, hargs, rfl, rfl, h0, r0⟩ := trodAll_cons hA
  obtain ⟨v1, vs1, d1, ds1, p1, q1, rfl, rfl, rfl, h1, r1⟩ := trodAll_cons r0
  obtain ⟨v2, vs2, d2, ds2, p2, q2, rfl, rfl, rfl, h2, r2⟩ := trodAll_cons r1
  obtain ⟨rfl, rfl, rfl⟩ := trodAll_nil r2
  obtain rfl : args = #[v0, v1, v2] := by cases args; simp_all
  obtain ⟨rfl, rfl⟩ := trodVars_none hV
  obtain ⟨a0, n0, c0, rfl⟩ := okWide_slice Try.underlying22 (hval 0 22 v0 rfl rfl)
  have k0 := h0
  have lt0 : ∀ x ∈ p0, x.block < W.heap.size := by obtain ⟨m, hm⟩ := k0; exact DataW.trod_lt m _ _ _ hm
  obtain ⟨f0, i0, b0⟩ := ints_of_trod Try.underlying22 Try.underlying3 (by kernel_rfl) h0
  obtain ⟨a1, n1, c1, rfl⟩ := okWide_slice Try.underlying22 (hval 1 22 v1 rfl rfl)
  have k1 := h1
  have lt1 : ∀ x ∈ p1, x.block < W.heap.size := by obtain ⟨m, hm⟩ := k1; exact DataW.trod_lt m _ _ _ hm
  obtain ⟨f1, i1, b1⟩ := ints_of_trod Try.underlying22 Try.underlying3 (by kernel_rfl) h1
  obtain ⟨a2, rfl, rfl, rfl, w2⟩ := open_int Try.underlying3 (hval 2 3 v2 rfl rfl) h2
  clear hA0 hval0
  refine (walk a0 n0 c0 f0 a1 n1 c1 f1 a2 W i0 b0 i1 b1 (bounds_i64 w2)).mono fun e W' ⟨he, hx⟩ => ?_
  subst he
  have bel := hx.below
  exact ⟨_, rfl, _, _, _, [], _, [], hW', trodAll_mk1 (shut_bool Try.underlying4 _), (trodAll_cons_mk (Below.trod laidOut (by kernel_rfl) (of_decide_eq_true (by kernel_rfl)) k0 bel lt0) (trodAll_cons_mk (Below.trod laidOut (by kernel_rfl) (of_decide_eq_true (by kernel_rfl)) k1 bel lt1) (trodAll_cons_mk (shut_int Try.underlying3 w2) trodAll_mk0))), rfl, bel.frame _, fun h => by cases h⟩
theorem over : Rows.matProductRow.holds Try.pinned (OpenSpec.ofChange Rows.matProductSpec) :=
  OpenClaim.holds_of_wide 4 Try.f4 rfl rfl rfl rfl rfl rfl rfl ⟨rfl, rfl, rfl, rfl, rfl⟩ rfl rfl rfl rfl rfl (by kernel_rfl) Try.func4 (by kernel_rfl)
    (of_decide_eq_true (by kernel_rfl)) (by unfold Func.isWrapper; first | (rw [if_pos (by decide +kernel)]; kernel_rfl) | (rw [if_neg (by decide +kernel)]; exact ⟨rfl, rfl⟩))
    (fun os started H enc _ => lifted os started H enc)
end Go.Proofs.Ytfnocamooapajab.matProduct
namespace Go.Proofs.Ytfnocamooapajab
theorem matProduct_holds : Rows.MatProductSaid := matProduct.over
#print axioms matProduct_holds
end Go.Proofs.Ytfnocamooapajab
