/-
  Each element but 0 is one power of 2, and the logarithm of a product is the sum of both, less 255 where that is more (quicksetkeep.GfLogBack returns true), at every two arguments of type int; no condition.
-/
import Derived.Test.YthijhcadibkpdabRows
import Derived.WalkKit
import Derived.ProofKit
import Derived.OpenShut
import Derived.Test.YthijhcadibkpdabKeepGf
import Derived.Test.YthijhcadibkpdabGfPow
import Derived.Test.YthijhcadibkpdabGfLog
namespace Go.Proofs.Ythijhcadibkpdab.gfLogBack
open Go.ChangeShapes Go.WideShapes Go.ChangeAt Go.RowKit
set_option linter.unusedVariables false

theorem own : ownKnob Try.prog.godebug = none := by kernel_rfl

theorem lg_mul (x y : Nat) (x0 : 0 < x) (kx : x < 256) (y0 : 0 < y) (ky : y < 256) : 0 < Gf.gmul x y ∧ Gf.lg (Gf.gmul x y) = (Gf.lg x + Gf.lg y) % 255 := by
  have h : Gf.gmul x y = Gf.gpow 2 ((Gf.lg x + Gf.lg y) % 255) := by
    rw [← Gf.gpow_two_mod, Gf.gpow_add, Gf.gpow_lg x x0 kx, Gf.gpow_lg y y0 ky]
  rw [h]
  exact ⟨Gf.gpow_two_pos _, Gf.lg_gpow _ (by omega)⟩
theorem log_is (x : Nat) (x0 : 0 < x) (kx : x < 256) : logV x = ((Gf.lg x : Nat) : Int) ∧ logE x = 0 := by
  have ex : elB (x : Int) = true := elB_of x (by omega) (by omega)
  rw [logV, logE, if_pos ex, if_pos ex, if_neg (by omega), if_neg (by omega)]
  exact ⟨rfl, rfl⟩
set_option maxRecDepth 100000 in
set_option maxHeartbeats 2000000 in
theorem walk (a0 : Int) (a1 : Int) (w0 : (Lit.int .i64 a0).wf = true) (w1 : (Lit.int .i64 a1).wf = true) (w : World) :
    Calls Try.prog 7 #[.int .i64 a0, .int .i64 a1] w fun e w' => e = .returned (.bool true) ∧ Grown w w' := by
  obtain ⟨m, hm, lm⟩ := picked_is a0 255 (by omega)
  obtain ⟨n, hn, ln⟩ := picked_is a1 255 (by omega)
  have HM : Hid (a0 % 255 = m) := hm
  have HN : Hid (a1 % 255 = n) := hn
  clear hm hn
  obtain ⟨x, hx⟩ : ∃ x : Nat, x = 1 + m := ⟨_, rfl⟩
  obtain ⟨y, hy⟩ : ∃ y : Nat, y = 1 + n := ⟨_, rfl⟩
  have HX : Hid ((1 : Int) + (m : Int) = (x : Int)) := by show _ = _; omega
  have HY : Hid ((1 : Int) + (n : Int) = (y : Int)) := by show _ = _; omega
  have x0 : 0 < x := by omega
  have kx : x < 256 := by omega
  have y0 : 0 < y := by omega
  have ky : y < 256 := by omega
  clear hx hy
  have HLx : Hid (logV x = ((Gf.lg x : Nat) : Int) ∧ logE x = 0) := log_is x x0 kx
  have HLy : Hid (logV y = ((Gf.lg y : Nat) : Int) ∧ logE y = 0) := log_is y y0 ky
  have hp := lg_mul x y x0 kx y0 ky
  have e1 := Gf.gmul_lt x y kx
  have HLp : Hid (logV (Gf.gmul x y : Nat) = (((Gf.lg x + Gf.lg y) % 255 : Nat) : Int) ∧ logE (Gf.gmul x y : Nat) = 0) := by
    rw [← hp.2]; exact log_is _ hp.1 e1
  clear hp
  have l1 := Gf.lg_lt x x0 kx
  have l2 := Gf.lg_lt y y0 ky
  have HPx : Hid (powV 2 (Gf.lg x : Nat) = (x : Int) ∧ powE 2 (Gf.lg x : Nat) = 0) := by
    have h : powB 2 (Gf.lg x : Nat) = true := by
      unfold powB
      rw [elB_of 2 (by omega) (by omega)]
      simp
    rw [powV, powE, if_pos h, if_pos h]
    exact ⟨by rw [Int.toNat_natCast, show Int.toNat 2 = 2 from rfl, Gf.gpow_lg x x0 kx], rfl⟩
  have HS : Hid ((((Gf.lg x + Gf.lg y) % 255 : Nat) : Int) = ((Gf.lg x : Nat) + (Gf.lg y : Nat) : Int) % 255) := by
    show _ = _
    rw [Int.natCast_emod, Int.natCast_add]; rfl
  go_enter Try.func7, Try.ntmps7
  go_wp2_with fail
  refine (Picked_nat a0 255 m _ (by omega) (by omega) w0 HM.out).mono ?_
  rintro e w' ⟨rfl, rfl⟩
  go_wp2_with fail
  refine (Picked_nat a1 255 n _ (by omega) (by omega) w1 HN.out).mono ?_
  rintro e w' ⟨rfl, rfl⟩
  go_wp2_with fail
  rw [HX.out, HY.out]
  refine (Log_any x _).mono ?_
  rintro e v1 ⟨rfl, x1⟩
  rw [HLx.out.1, HLx.out.2]
  go_wp2_with fail
  refine (Log_any y _).mono ?_
  rintro e v2 ⟨rfl, x2⟩
  rw [HLy.out.1, HLy.out.2]
  go_wp2_with fail
  refine (Exp_any (Gf.lg x : Nat) _ (by omega)).mono ?_
  rintro e v3 ⟨rfl, x3⟩
  rw [HPx.out.1, HPx.out.2]
  go_wp2_with fail
  refine (kmul x y _ kx ky).mono ?_
  rintro e v4 ⟨rfl, x4⟩
  go_wp2_with fail
  refine (Log_any (Gf.gmul x y : Nat) _).mono ?_
  rintro e v5 ⟨rfl, x5⟩
  rw [HLp.out.1, HLp.out.2, HS.out]
  go_wp2_with fail
  go_ret
  exact ⟨rfl, ((((x1.trans x2).trans x3).trans x4).trans x5).grown⟩

set_option maxRecDepth 100000 in
theorem lifted (os : Os) (started : os.Started) (H : Type) (enc : TypeId × Value → H) :
    ReturnsInHanded {} Try.checked os 7 .any (Rows.gfLogBackSpec.pre6 enc Try.prog Try.f7 Rows.gfLogBackRow.domain false) (Rows.gfLogBackSpec.post enc Try.prog Try.f7 false true false false) := by
  refine returnsInHanded_of_change (C := Try.checked) own started (by kernel_rfl) Try.func7
    (ChangeSpec.witness6 (enc := enc) (C := Try.checked) false ⟨#[], #[.int .i64 0, .int .i64 0], []⟩ 8 (by kernel_rfl) (by kernel_rfl) (by kernel_rfl) (by kernel_rfl)) ?_
  intro W base args ds gs before hval0 hW hcnd _
  have hval : ∀ (j : Nat) t v, Try.f7.params[j]? = some t → args[j]? = some v → Value.okWide Try.prog W .any base t v := hval0
  have hW' := hW
  obtain ⟨p, q, hA0, hV, rfl, hfz, hnd⟩ := hW
  have hA : DataW.TrodAll enc Try.prog W 0 (fun _ => true) true Try.f7.params.toList args.toList ds p := hA0
  rw [Try.params7] at hA hval
  obtain ⟨v0, vs0, d0, ds0, p0, q0, hargs, rfl, rfl, h0, r0⟩ := trodAll_cons hA
  obtain ⟨v1, vs1, d1, ds1, p1, q1, rfl, rfl, rfl, h1, r1⟩ := trodAll_cons r0
  obtain ⟨rfl, rfl, rfl⟩ := trodAll_nil r1
  obtain rfl : args = #[v0, v1] := by cases args; simp_all
  obtain ⟨rfl, rfl⟩ := trodVars_none hV
  obtain ⟨a0, rfl, rfl, rfl, w0⟩ := open_int Try.underlying3 (hval 0 3 v0 rfl rfl) h0
  obtain ⟨a1, rfl, rfl, rfl, w1⟩ := open_int Try.underlying3 (hval 1 3 v1 rfl rfl) h1
  clear hA0 hval0
  simp only [List.append_nil] at hW'
  refine (walk a0 a1 w0 w1 W).mono fun e W' ⟨he, hg⟩ => ?_
  subst he
  exact ⟨_, rfl, post_of_same (pa := []) (pv := []) hW' (fun _ _ _ => (trodAll_cons_mk (shut_bool Try.underlying4 _) trodAll_mk0)) (fun sp _ => (trodAll_cons_mk (shut_int Try.underlying3 w0) (trodAll_cons_mk (shut_int Try.underlying3 w1) trodAll_mk0))) (fun _ _ => rfl) rfl
    (hg.frame _) hg.2.1 (ok_one (by kernel_rfl) rfl (okWide_bool_mk Try.underlying4 _))⟩

theorem over : Rows.gfLogBackRow.holds Try.pinned (OpenSpec.ofChange Rows.gfLogBackSpec) :=
  OpenClaim.holds_of_wide 7 Try.f7 rfl rfl rfl rfl rfl rfl rfl ⟨rfl, rfl, rfl, rfl, rfl⟩ rfl rfl rfl rfl rfl (by kernel_rfl) Try.func7 (by kernel_rfl)
    (of_decide_eq_true (by kernel_rfl)) (by unfold Func.isWrapper; first | (rw [if_pos (by decide +kernel)]; kernel_rfl) | (rw [if_neg (by decide +kernel)]; exact ⟨rfl, rfl⟩))
    (fun os started H enc _ => lifted os started H enc)

theorem proved : Rows.GfLogBackSaid :=
  over
end Go.Proofs.Ythijhcadibkpdab.gfLogBack
namespace Go.Proofs.Ythijhcadibkpdab
theorem gfLogBack_holds : Rows.GfLogBackSaid := gfLogBack.proved
#print axioms gfLogBack_holds
end Go.Proofs.Ythijhcadibkpdab
