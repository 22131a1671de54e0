/-
  Powers add up, and the power 255 of 2 is 1 (quicksetkeep.GfPowers returns true), at every three arguments of type int; no condition.
-/
import Derived.Test.YthijhcadibkpdabRows
import Derived.WalkKit
import Derived.ProofKit
import Derived.OpenShut
import Derived.Test.YthijhcadibkpdabKeepGf
import Derived.Test.YthijhcadibkpdabGfPow
namespace Go.Proofs.Ythijhcadibkpdab.gfPowers
open Go.ChangeShapes Go.WideShapes Go.ChangeAt Go.RowKit
set_option linter.unusedVariables false

theorem own : ownKnob Try.prog.godebug = none := by kernel_rfl

theorem picked_int (a n : Int) (hn : 0 < n) : ∃ x : Int, a % n = x ∧ 0 ≤ x ∧ x < n := ⟨_, rfl, Int.emod_nonneg a (by omega), Int.emod_lt_of_pos a hn⟩
theorem Picked_int (a n x : Int) (w : World) (h0 : 0 < n) (h1 : n ≤ 1073741824) (hw : (Lit.int .i64 a).wf = true) (hx : a % n = x) :
    Calls Try.prog 10 #[.int .i64 a, .int .i64 n] w fun e w' => e = .returned (.int .i64 x) ∧ w' = w := by
  have hb := bounds_i64 hw
  rw [← hx]
  exact Picked_any a n w h0 h1 hb.1 hb.2
theorem pow_is (x : Nat) (kx : x < 256) (n : Int) (hn : 0 ≤ n) : powV x n = ((Gf.gpow x n.toNat : Nat) : Int) ∧ powE x n = 0 := by
  have h : powB x n = true := by unfold powB; rw [elB_of x (by omega) (by omega)]; simpa using hn
  rw [powV, powE, if_pos h, if_pos h]
  exact ⟨rfl, rfl⟩
theorem pow_one : powV 2 255 = 1 ∧ powE 2 255 = 0 := by
  have h : powB 2 255 = true := by decide
  rw [powV, powE, if_pos h, if_pos h]
  exact ⟨by show ((Gf.gpow 2 255 : Nat) : Int) = 1; rw [Gf.gpow_two_255]; rfl, rfl⟩
theorem pow_sum (x : Nat) (i k : Int) (hi : 0 ≤ i) (hk : 0 ≤ k) : Gf.gmul (Gf.gpow x i.toNat) (Gf.gpow x k.toNat) = Gf.gpow x (i + k).toNat := by
  rw [Int.toNat_add hi hk, Gf.gpow_add]
set_option maxRecDepth 100000 in
set_option maxHeartbeats 2000000 in
theorem walk (a0 : Int) (a1 : Int) (a2 : Int) (w0 : (Lit.int .i64 a0).wf = true) (w1 : (Lit.int .i64 a1).wf = true) (w2 : (Lit.int .i64 a2).wf = true) (w : World) :
    Calls Try.prog 6 #[.int .i64 a0, .int .i64 a1, .int .i64 a2] w fun e w' => e = .returned (.bool true) ∧ Grown w w' := by
  obtain ⟨x, hx, lx⟩ := picked_is a0 256 (by omega)
  obtain ⟨i, hi, i0, i1⟩ := picked_int a1 1073741824 (by omega)
  obtain ⟨k, hk, k0, k1⟩ := picked_int a2 1073741824 (by omega)
  have HX : Hid (a0 % 256 = x) := hx
  have HI : Hid (a1 % 1073741824 = i) := hi
  have HK : Hid (a2 % 1073741824 = k) := hk
  clear hx hi hk
  have kx : x < 256 := by omega
  have e1 := Gf.gpow_lt x i.toNat
  have e2 := Gf.gpow_lt x k.toNat
  have HS : Hid (Gf.gmul (Gf.gpow x i.toNat) (Gf.gpow x k.toNat) = Gf.gpow x (i + k).toNat) := pow_sum x i k i0 k0
  have HPi : Hid (powV x i = ((Gf.gpow x i.toNat : Nat) : Int) ∧ powE x i = 0) := pow_is x kx i i0
  have HPk : Hid (powV x k = ((Gf.gpow x k.toNat : Nat) : Int) ∧ powE x k = 0) := pow_is x kx k k0
  have HPs : Hid (powV x (i + k) = ((Gf.gpow x (i + k).toNat : Nat) : Int) ∧ powE x (i + k) = 0) := pow_is x kx (i + k) (by omega)
  generalize Gf.gpow x i.toNat = p at e1 HS HPi
  generalize Gf.gpow x k.toNat = q at e2 HS HPk
  generalize Gf.gpow x (i + k).toNat = r at HS HPs
  have c1 : (((Gf.gmul p q : Nat) : Int) == (r : Int)) = true := by rw [HS.out]; simp
  go_enter Try.func6, Try.ntmps6
  go_wp2_with fail
  refine (Picked_nat a0 256 x _ (by omega) (by omega) w0 HX.out).mono ?_
  rintro e w' ⟨rfl, rfl⟩
  go_wp2_with fail
  refine (Picked_int a1 1073741824 i _ (by omega) (by omega) w1 HI.out).mono ?_
  rintro e w' ⟨rfl, rfl⟩
  go_wp2_with fail
  refine (Picked_int a2 1073741824 k _ (by omega) (by omega) w2 HK.out).mono ?_
  rintro e w' ⟨rfl, rfl⟩
  go_wp2_with fail
  refine (Pow_any x i _ (by omega)).mono ?_
  rintro e v1 ⟨rfl, x1⟩
  rw [HPi.out.1, HPi.out.2]
  go_wp2_with fail
  refine (Pow_any x k _ (by omega)).mono ?_
  rintro e v2 ⟨rfl, x2⟩
  rw [HPk.out.1, HPk.out.2]
  go_wp2_with fail
  refine (Pow_any x (i + k) _ (by omega)).mono ?_
  rintro e v3 ⟨rfl, x3⟩
  rw [HPs.out.1, HPs.out.2]
  go_wp2_with fail
  refine (Exp_any 255 _ (by omega)).mono ?_
  rintro e v4 ⟨rfl, x4⟩
  rw [pow_one.1, pow_one.2]
  go_wp2_with fail
  refine (kmul p q _ e1 e2).mono ?_
  rintro e v5 ⟨rfl, x5⟩
  go_wp2_with fail
  go_ret
  exact ⟨rfl, ((((x1.trans x2).trans x3).trans x4).trans x5).grown⟩

set_option maxRecDepth 100000 in
theorem lifted (os : Os) (started : os.Started) (H : Type) (enc : TypeId × Value → H) :
    ReturnsInHanded {} Try.checked os 6 .any (Rows.gfPowersSpec.pre6 enc Try.prog Try.f6 Rows.gfPowersRow.domain false) (Rows.gfPowersSpec.post enc Try.prog Try.f6 false true false false) := by
  refine returnsInHanded_of_change (C := Try.checked) own started (by kernel_rfl) Try.func6
    (ChangeSpec.witness6 (enc := enc) (C := Try.checked) false ⟨#[], #[.int .i64 0, .int .i64 0, .int .i64 0], []⟩ 8 (by kernel_rfl) (by kernel_rfl) (by kernel_rfl) (by kernel_rfl)) ?_
  intro W base args ds gs before hval0 hW hcnd _
  have hval : ∀ (j : Nat) t v, Try.f6.params[j]? = some t → args[j]? = some v → Value.okWide Try.prog W .any base t v := hval0
  have hW' := hW
  obtain ⟨p, q, hA0, hV, rfl, hfz, hnd⟩ := hW
  have hA : DataW.TrodAll enc Try.prog W 0 (fun _ => true) true Try.f6.params.toList args.toList ds p := hA0
  rw [Try.params6] at hA hval
  obtain ⟨v0, vs0, d0, ds0, p0, q0, hargs, rfl, rfl, h0, r0⟩ := trodAll_cons hA
  obtain ⟨v1, vs1, d1, ds1, p1, q1, rfl, rfl, rfl, h1, r1⟩ := trodAll_cons r0
  obtain ⟨v2, vs2, d2, ds2, p2, q2, rfl, rfl, rfl, h2, r2⟩ := trodAll_cons r1
  obtain ⟨rfl, rfl, rfl⟩ := trodAll_nil r2
  obtain rfl : args = #[v0, v1, v2] := by cases args; simp_all
  obtain ⟨rfl, rfl⟩ := trodVars_none hV
  obtain ⟨a0, rfl, rfl, rfl, w0⟩ := open_int Try.underlying3 (hval 0 3 v0 rfl rfl) h0
  obtain ⟨a1, rfl, rfl, rfl, w1⟩ := open_int Try.underlying3 (hval 1 3 v1 rfl rfl) h1
  obtain ⟨a2, rfl, rfl, rfl, w2⟩ := open_int Try.underlying3 (hval 2 3 v2 rfl rfl) h2
  clear hA0 hval0
  simp only [List.append_nil] at hW'
  refine (walk a0 a1 a2 w0 w1 w2 W).mono fun e W' ⟨he, hg⟩ => ?_
  subst he
  exact ⟨_, rfl, post_of_same (pa := []) (pv := []) hW' (fun _ _ _ => (trodAll_cons_mk (shut_bool Try.underlying4 _) trodAll_mk0)) (fun sp _ => (trodAll_cons_mk (shut_int Try.underlying3 w0) (trodAll_cons_mk (shut_int Try.underlying3 w1) (trodAll_cons_mk (shut_int Try.underlying3 w2) trodAll_mk0)))) (fun _ _ => rfl) rfl
    (hg.frame _) hg.2.1 (ok_one (by kernel_rfl) rfl (okWide_bool_mk Try.underlying4 _))⟩

theorem over : Rows.gfPowersRow.holds Try.pinned (OpenSpec.ofChange Rows.gfPowersSpec) :=
  OpenClaim.holds_of_wide 6 Try.f6 rfl rfl rfl rfl rfl rfl rfl ⟨rfl, rfl, rfl, rfl, rfl⟩ rfl rfl rfl rfl rfl (by kernel_rfl) Try.func6 (by kernel_rfl)
    (of_decide_eq_true (by kernel_rfl)) (by unfold Func.isWrapper; first | (rw [if_pos (by decide +kernel)]; kernel_rfl) | (rw [if_neg (by decide +kernel)]; exact ⟨rfl, rfl⟩))
    (fun os started H enc _ => lifted os started H enc)

theorem proved : Rows.GfPowersSaid :=
  over
end Go.Proofs.Ythijhcadibkpdab.gfPowers
namespace Go.Proofs.Ythijhcadibkpdab
theorem gfPowers_holds : Rows.GfPowersSaid := gfPowers.proved
#print axioms gfPowers_holds
end Go.Proofs.Ythijhcadibkpdab
