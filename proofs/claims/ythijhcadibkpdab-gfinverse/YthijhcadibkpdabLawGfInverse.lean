/-
  Every element but 0 has an inverse, and no two that are not 0 have the product 0 (quicksetkeep.GfInverse returns true), at every two arguments of type int; no condition.
-/
import Derived.Test.YthijhcadibkpdabRows
import Derived.WalkKit
import Derived.ProofKit
import Derived.OpenShut
import Derived.Test.YthijhcadibkpdabKeepGf
namespace Go.Proofs.Ythijhcadibkpdab.gfInverse
open Go.ChangeShapes Go.WideShapes Go.ChangeAt Go.RowKit
set_option linter.unusedVariables false

theorem own : ownKnob Try.prog.godebug = none := by kernel_rfl

set_option maxRecDepth 100000 in
set_option maxHeartbeats 2000000 in
theorem walk (a0 : Int) (a1 : Int) (w0 : (Lit.int .i64 a0).wf = true) (w1 : (Lit.int .i64 a1).wf = true) (w : World) :
    Calls Try.prog 5 #[.int .i64 a0, .int .i64 a1] w fun e w' => e = .returned (.bool true) ∧ Grown w w' := by
  obtain ⟨x, hx, lx⟩ := picked_is a0 256 (by omega)
  obtain ⟨m, hm, lm⟩ := picked_is a1 255 (by omega)
  have HX : Hid (a0 % 256 = x) := hx
  have HM : Hid (a1 % 255 = m) := hm
  clear hx hm
  have kx : x < 256 := by omega
  have km : m < 255 := by omega
  obtain ⟨y, hy⟩ : ∃ y : Nat, y = 1 + m := ⟨_, rfl⟩
  have HY : Hid ((1 : Int) + (m : Int) = (y : Int)) := by show _ = _; omega
  have y0 : 0 < y := by omega
  have ky : y < 256 := by omega
  clear hy
  have py := pair_of x y kx ky
  have p1 : pairB 1 (y : Int) = true := pair_of 1 y (by omega) ky
  have z1 : pairB 1 0 = true := pair_of 1 0 (by omega) (by omega)
  have HD : Hid (divV x y = ((Gf.gmul x (Gf.inv y) : Nat) : Int) ∧ divE x y = 0) := by
    unfold divV divE
    rw [if_pos py, if_neg (by omega), if_pos py, if_neg (by omega)]
    exact ⟨rfl, rfl⟩
  have HI : Hid (divV 1 y = ((Gf.inv y : Nat) : Int) ∧ divE 1 y = 0) := by
    unfold divV divE
    rw [if_pos p1, if_neg (by omega), if_pos p1, if_neg (by omega), show Int.toNat 1 = 1 from rfl, Int.toNat_natCast, Gf.one_gmul _ (Gf.inv_lt _)]
    exact ⟨rfl, rfl⟩
  have HZ : Hid (divV 1 0 = 0 ∧ divE 1 0 = 10) := by
    unfold divV divE
    rw [if_pos z1, if_pos rfl, if_pos z1, if_pos rfl]
    exact ⟨rfl, rfl⟩
  have e1 := Gf.gmul_lt x (Gf.inv y) kx
  have e2 := Gf.inv_lt y
  have c1 : (((Gf.gmul (Gf.gmul x (Gf.inv y)) y : Nat) : Int) == (x : Int)) = true := by rw [Gf.div_gmul x y kx y0 ky]; simp
  have c2 : (((Gf.gmul (Gf.inv y) y : Nat) : Int) == 1) = true := by rw [Gf.inv_gmul y y0 ky]; simp
  have c4 := Gf.gmul_eq_zero x y kx y0 ky
  have c3 : (((Gf.gmul x y : Nat) : Int) == 0) = ((x : Int) == 0) := by
    rw [Bool.eq_iff_iff]; simp only [beq_iff_eq]; omega
  clear py p1 z1 c4
  go_enter Try.func5, Try.ntmps5
  go_wp2_with fail
  refine (Picked_nat a0 256 x _ (by omega) (by omega) w0 HX.out).mono ?_
  rintro e w' ⟨rfl, rfl⟩
  go_wp2_with fail
  refine (Picked_nat a1 255 m _ (by omega) (by omega) w1 HM.out).mono ?_
  rintro e w' ⟨rfl, rfl⟩
  go_wp2_with fail
  rw [HY.out]
  refine (Div_any x y _).mono ?_
  rintro e v1 ⟨rfl, x1⟩
  rw [HD.out.1, HD.out.2]
  go_wp2_with fail
  refine (Inv_any y _).mono ?_
  rintro e v2 ⟨rfl, x2⟩
  rw [HI.out.1, HI.out.2]
  go_wp2_with fail
  refine (Inv_any 0 _).mono ?_
  rintro e v3 ⟨rfl, x3⟩
  rw [HZ.out.1, HZ.out.2]
  go_wp2_with fail
  refine (kmul (Gf.gmul x (Gf.inv y)) y _ e1 ky).mono ?_
  rintro e v4 ⟨rfl, x4⟩
  go_wp2_with fail
  refine (kmul (Gf.inv y) y _ e2 ky).mono ?_
  rintro e v5 ⟨rfl, x5⟩
  go_wp2_with fail
  refine (kmul x (Gf.inv y) _ kx e2).mono ?_
  rintro e v6 ⟨rfl, x6⟩
  go_wp2_with fail
  refine (kmul x y _ kx ky).mono ?_
  rintro e v7 ⟨rfl, x7⟩
  go_wp2_with fail
  go_ret
  exact ⟨rfl, ((((((x1.trans x2).trans x3).trans x4).trans x5).trans x6).trans x7).grown⟩

set_option maxRecDepth 100000 in
theorem lifted (os : Os) (started : os.Started) (H : Type) (enc : TypeId × Value → H) :
    ReturnsInHanded {} Try.checked os 5 .any (Rows.gfInverseSpec.pre6 enc Try.prog Try.f5 Rows.gfInverseRow.domain false) (Rows.gfInverseSpec.post enc Try.prog Try.f5 false true false false) := by
  refine returnsInHanded_of_change (C := Try.checked) own started (by kernel_rfl) Try.func5
    (ChangeSpec.witness6 (enc := enc) (C := Try.checked) false ⟨#[], #[.int .i64 0, .int .i64 0], []⟩ 8 (by kernel_rfl) (by kernel_rfl) (by kernel_rfl) (by kernel_rfl)) ?_
  intro W base args ds gs before hval0 hW hcnd _
  have hval : ∀ (j : Nat) t v, Try.f5.params[j]? = some t → args[j]? = some v → Value.okWide Try.prog W .any base t v := hval0
  have hW' := hW
  obtain ⟨p, q, hA0, hV, rfl, hfz, hnd⟩ := hW
  have hA : DataW.TrodAll enc Try.prog W 0 (fun _ => true) true Try.f5.params.toList args.toList ds p := hA0
  rw [Try.params5] at hA hval
  obtain ⟨v0, vs0, d0, ds0, p0, q0, hargs, rfl, rfl, h0, r0⟩ := trodAll_cons hA
  obtain ⟨v1, vs1, d1, ds1, p1, q1, rfl, rfl, rfl, h1, r1⟩ := trodAll_cons r0
  obtain ⟨rfl, rfl, rfl⟩ := trodAll_nil r1
  obtain rfl : args = #[v0, v1] := by cases args; simp_all
  obtain ⟨rfl, rfl⟩ := trodVars_none hV
  obtain ⟨a0, rfl, rfl, rfl, w0⟩ := open_int Try.underlying3 (hval 0 3 v0 rfl rfl) h0
  obtain ⟨a1, rfl, rfl, rfl, w1⟩ := open_int Try.underlying3 (hval 1 3 v1 rfl rfl) h1
  clear hA0 hval0
  simp only [List.append_nil] at hW'
  refine (walk a0 a1 w0 w1 W).mono fun e W' ⟨he, hg⟩ => ?_
  subst he
  exact ⟨_, rfl, post_of_same (pa := []) (pv := []) hW' (fun _ _ _ => (trodAll_cons_mk (shut_bool Try.underlying4 _) trodAll_mk0)) (fun sp _ => (trodAll_cons_mk (shut_int Try.underlying3 w0) (trodAll_cons_mk (shut_int Try.underlying3 w1) trodAll_mk0))) (fun _ _ => rfl) rfl
    (hg.frame _) hg.2.1 (ok_one (by kernel_rfl) rfl (okWide_bool_mk Try.underlying4 _))⟩

theorem over : Rows.gfInverseRow.holds Try.pinned (OpenSpec.ofChange Rows.gfInverseSpec) :=
  OpenClaim.holds_of_wide 5 Try.f5 rfl rfl rfl rfl rfl rfl rfl ⟨rfl, rfl, rfl, rfl, rfl⟩ rfl rfl rfl rfl rfl (by kernel_rfl) Try.func5 (by kernel_rfl)
    (of_decide_eq_true (by kernel_rfl)) (by unfold Func.isWrapper; first | (rw [if_pos (by decide +kernel)]; kernel_rfl) | (rw [if_neg (by decide +kernel)]; exact ⟨rfl, rfl⟩))
    (fun os started H enc _ => lifted os started H enc)

theorem proved : Rows.GfInverseSaid :=
  over
end Go.Proofs.Ythijhcadibkpdab.gfInverse
namespace Go.Proofs.Ythijhcadibkpdab
theorem gfInverse_holds : Rows.GfInverseSaid := gfInverse.proved
#print axioms gfInverse_holds
end Go.Proofs.Ythijhcadibkpdab
