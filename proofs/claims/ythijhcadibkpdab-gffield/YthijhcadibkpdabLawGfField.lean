/-
  gf.Mul and gf.Add make a ring of the 256 elements (quicksetkeep.GfField returns true), at every three arguments of type int; no condition.
-/
import Derived.Test.YthijhcadibkpdabRows
import Derived.WalkKit
import Derived.ProofKit
import Derived.OpenShut
import Derived.Test.YthijhcadibkpdabKeepGf
namespace Go.Proofs.Ythijhcadibkpdab.gfField
open Go.ChangeShapes Go.WideShapes Go.ChangeAt Go.RowKit
set_option linter.unusedVariables false

theorem own : ownKnob Try.prog.godebug = none := by kernel_rfl

set_option maxRecDepth 100000 in
set_option maxHeartbeats 2000000 in
theorem walk (a0 : Int) (a1 : Int) (a2 : Int) (w0 : (Lit.int .i64 a0).wf = true) (w1 : (Lit.int .i64 a1).wf = true) (w2 : (Lit.int .i64 a2).wf = true) (w : World) :
    Calls Try.prog 4 #[.int .i64 a0, .int .i64 a1, .int .i64 a2] w fun e w' => e = .returned (.bool true) ∧ Grown w w' := by
  obtain ⟨x, hx, lx⟩ := picked_is a0 256 (by omega)
  obtain ⟨y, hy, ly⟩ := picked_is a1 256 (by omega)
  obtain ⟨z, hz, lz⟩ := picked_is a2 256 (by omega)
  have HX : Hid (a0 % 256 = x) := hx
  have HY : Hid (a1 % 256 = y) := hy
  have HZ : Hid (a2 % 256 = z) := hz
  clear hx hy hz
  have kx : x < 256 := by omega
  have ky : y < 256 := by omega
  have kz : z < 256 := by omega
  have e1 := Gf.gmul_lt x y kx
  have e2 := Gf.gmul_lt y z ky
  have e3 := Gf.gmul_lt x z kx
  have e4 := Gf.xor_lt y z ky kz
  have c1 : (((Gf.gmul x y : Nat) : Int) != ((Gf.gmul y x : Nat) : Int)) = false := by rw [Gf.gmul_comm x y kx ky]; simp
  have c2 : (((Gf.gmul x 1 : Nat) : Int) != (x : Int)) = false := by rw [Gf.gmul_one]; simp
  have c3 : (((x ^^^ x : Nat) : Int) != 0) = false := by rw [Nat.xor_self]; simp
  have c4 : (((x ^^^ 0 : Nat) : Int) != (x : Int)) = false := by rw [Nat.xor_zero]; simp
  have c5 : (((Gf.gmul (Gf.gmul x y) z : Nat) : Int) == ((Gf.gmul x (Gf.gmul y z) : Nat) : Int)) = true := by rw [Gf.gmul_assoc x y z kx ky]; simp
  have c6 : (((Gf.gmul x (y ^^^ z) : Nat) : Int) == ((Gf.gmul x y ^^^ Gf.gmul x z : Nat) : Int)) = true := by rw [Gf.gmul_xorR]; simp
  go_enter Try.func4, Try.ntmps4
  go_wp2_with fail
  refine (Picked_nat a0 256 x _ (by omega) (by omega) w0 HX.out).mono ?_
  rintro e w' ⟨rfl, rfl⟩
  go_wp2_with fail
  refine (Picked_nat a1 256 y _ (by omega) (by omega) w1 HY.out).mono ?_
  rintro e w' ⟨rfl, rfl⟩
  go_wp2_with fail
  refine (Picked_nat a2 256 z _ (by omega) (by omega) w2 HZ.out).mono ?_
  rintro e w' ⟨rfl, rfl⟩
  go_wp2_with fail
  refine (kmul x y _ kx ky).mono ?_
  rintro e v1 ⟨rfl, x1⟩
  go_wp2_with fail
  refine (kmul y x _ ky kx).mono ?_
  rintro e v2 ⟨rfl, x2⟩
  go_wp2_with fail
  refine (kmul x 1 _ kx (by omega)).mono ?_
  rintro e v3 ⟨rfl, x3⟩
  go_wp2_with fail
  refine (kadd x x _ kx kx).mono ?_
  rintro e v4 ⟨rfl, x4⟩
  go_wp2_with fail
  refine (kadd x 0 _ kx (by omega)).mono ?_
  rintro e v5 ⟨rfl, x5⟩
  go_wp2_with fail
  refine (kmul y z _ ky kz).mono ?_
  rintro e v6 ⟨rfl, x6⟩
  go_wp2_with fail
  refine (kadd y z _ ky kz).mono ?_
  rintro e v7 ⟨rfl, x7⟩
  go_wp2_with fail
  refine (kmul x z _ kx kz).mono ?_
  rintro e v8 ⟨rfl, x8⟩
  go_wp2_with fail
  refine (kmul (Gf.gmul x y) z _ e1 kz).mono ?_
  rintro e v9 ⟨rfl, x9⟩
  go_wp2_with fail
  refine (kmul x (Gf.gmul y z) _ kx e2).mono ?_
  rintro e v10 ⟨rfl, x10⟩
  go_wp2_with fail
  refine (kmul x (y ^^^ z) _ kx e4).mono ?_
  rintro e v11 ⟨rfl, x11⟩
  go_wp2_with fail
  refine (kadd (Gf.gmul x y) (Gf.gmul x z) _ e1 e3).mono ?_
  rintro e v12 ⟨rfl, x12⟩
  go_wp2_with fail
  go_ret
  exact ⟨rfl, (((((((((((x1.trans x2).trans x3).trans x4).trans x5).trans x6).trans x7).trans x8).trans x9).trans x10).trans x11).trans x12).grown⟩

set_option maxRecDepth 100000 in
theorem lifted (os : Os) (started : os.Started) (H : Type) (enc : TypeId × Value → H) :
    ReturnsInHanded {} Try.checked os 4 .any (Rows.gfFieldSpec.pre6 enc Try.prog Try.f4 Rows.gfFieldRow.domain false) (Rows.gfFieldSpec.post enc Try.prog Try.f4 false true false false) := by
  refine returnsInHanded_of_change (C := Try.checked) own started (by kernel_rfl) Try.func4
    (ChangeSpec.witness6 (enc := enc) (C := Try.checked) false ⟨#[], #[.int .i64 0, .int .i64 0, .int .i64 0], []⟩ 8 (by kernel_rfl) (by kernel_rfl) (by kernel_rfl) (by kernel_rfl)) ?_
  intro W base args ds gs before hval0 hW hcnd _
  have hval : ∀ (j : Nat) t v, Try.f4.params[j]? = some t → args[j]? = some v → Value.okWide Try.prog W .any base t v := hval0
  have hW' := hW
  obtain ⟨p, q, hA0, hV, rfl, hfz, hnd⟩ := hW
  have hA : DataW.TrodAll enc Try.prog W 0 (fun _ => true) true Try.f4.params.toList args.toList ds p := hA0
  rw [Try.params4] at hA hval
  obtain ⟨v0, vs0, d0, ds0, p0, q0, hargs, rfl, rfl, h0, r0⟩ := trodAll_cons hA
  obtain ⟨v1, vs1, d1, ds1, p1, q1, rfl, rfl, rfl, h1, r1⟩ := trodAll_cons r0
  obtain ⟨v2, vs2, d2, ds2, p2, q2, rfl, rfl, rfl, h2, r2⟩ := trodAll_cons r1
  obtain ⟨rfl, rfl, rfl⟩ := trodAll_nil r2
  obtain rfl : args = #[v0, v1, v2] := by cases args; simp_all
  obtain ⟨rfl, rfl⟩ := trodVars_none hV
  obtain ⟨a0, rfl, rfl, rfl, w0⟩ := open_int Try.underlying3 (hval 0 3 v0 rfl rfl) h0
  obtain ⟨a1, rfl, rfl, rfl, w1⟩ := open_int Try.underlying3 (hval 1 3 v1 rfl rfl) h1
  obtain ⟨a2, rfl, rfl, rfl, w2⟩ := open_int Try.underlying3 (hval 2 3 v2 rfl rfl) h2
  clear hA0 hval0
  simp only [List.append_nil] at hW'
  refine (walk a0 a1 a2 w0 w1 w2 W).mono fun e W' ⟨he, hg⟩ => ?_
  subst he
  exact ⟨_, rfl, post_of_same (pa := []) (pv := []) hW' (fun _ _ _ => (trodAll_cons_mk (shut_bool Try.underlying4 _) trodAll_mk0)) (fun sp _ => (trodAll_cons_mk (shut_int Try.underlying3 w0) (trodAll_cons_mk (shut_int Try.underlying3 w1) (trodAll_cons_mk (shut_int Try.underlying3 w2) trodAll_mk0)))) (fun _ _ => rfl) rfl
    (hg.frame _) hg.2.1 (ok_one (by kernel_rfl) rfl (okWide_bool_mk Try.underlying4 _))⟩

theorem over : Rows.gfFieldRow.holds Try.pinned (OpenSpec.ofChange Rows.gfFieldSpec) :=
  OpenClaim.holds_of_wide 4 Try.f4 rfl rfl rfl rfl rfl rfl rfl ⟨rfl, rfl, rfl, rfl, rfl⟩ rfl rfl rfl rfl rfl (by kernel_rfl) Try.func4 (by kernel_rfl)
    (of_decide_eq_true (by kernel_rfl)) (by unfold Func.isWrapper; first | (rw [if_pos (by decide +kernel)]; kernel_rfl) | (rw [if_neg (by decide +kernel)]; exact ⟨rfl, rfl⟩))
    (fun os started H enc _ => lifted os started H enc)

theorem proved : Rows.GfFieldSaid :=
  over
end Go.Proofs.Ythijhcadibkpdab.gfField
namespace Go.Proofs.Ythijhcadibkpdab
theorem gfField_holds : Rows.GfFieldSaid := gfField.proved
#print axioms gfField_holds
end Go.Proofs.Ythijhcadibkpdab
