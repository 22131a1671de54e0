/-
  Who replays the log of deeds has what is free; condensed it says the same, in no more records than half the units and one: at every list of wishes and every number of units; no condition.
-/
import Derived.Test.YtfpbiimjcdbaoaaRows
import Derived.WalkKit
import Derived.ProofKit
import Derived.OpenShut
import Derived.ChangeOld
import Derived.Below
import Derived.BigQuiet
import Derived.Deep.CutRange
import Derived.Deep.QuietTactic
import Derived.Deep.RegionLaw
import Derived.Test.YtfpbiimjcdbaoaaOpn
import Derived.Test.YtfpbiimjcdbaoaaChecked
import Derived.Test.YtfpbiimjcdbaoaaSpaceOpen
import Derived.Test.YtfpbiimjcdbaoaaKeepSpace
namespace Go.Proofs.Ytfpbiimjcdbaoaa.replaySame
open Go.ChangeShapes Go.WideShapes Go.ChangeAt Go.RowKit
set_option linter.unusedVariables false

set_option maxRecDepth 100000 in
set_option maxHeartbeats 4000000 in
theorem walk (a0 : Option Addr) (n0 c0 : Nat) (L0 : List (Int × Int × Int)) (a1 : Int) (w : World) (l0 : L0.length = n0) (h0 : Tri w a0 (L0.map int3)) (b0 : ∀ r, r ∈ L0 → InI64 r.1 ∧ InI64 r.2.1 ∧ InI64 r.2.2) (k0 : n0 ≤ c0 ∧ c0 ≤ 9223372036854775807) (w1 : -9223372036854775808 ≤ a1 ∧ a1 ≤ 9223372036854775807) :
    Calls Try.prog 4 #[.slice a0 n0 c0, .int .i64 a1] w fun e w' => e = .returned (.bool true) ∧ Ext w w' := by
  have HL0 : Hid (Tri w a0 (fndV L0)) := h0
  have HB0 : Hid (∀ r, r ∈ L0 → InI64 r.1 ∧ InI64 r.2.1 ∧ InI64 r.2.2) := b0
  have HLL : Hid (L0.length = n0) := l0
  obtain ⟨x, hx, hx1⟩ := picked_is a1 100 (by omega)
  have HX : Hid (a1 % 100 = (x : Int)) := hx
  have HW1 : Hid (-9223372036854775808 ≤ a1 ∧ a1 ≤ 9223372036854775807) := w1
  obtain ⟨n, hadd⟩ : ∃ n : Nat, 1 + (x : Int) = (n : Int) := ⟨x + 1, by omega⟩
  have hn : 1 ≤ n ∧ n ≤ 100 := by omega
  have HDd : Hid (Calls Try.prog 8 #[.slice a0 n0 c0, .int .i64 60, .int .i64 n] w fun e w' => DdRes n 60 e w' ∧ Ext w w') := Deeds_any a0 n0 c0 L0 60 n w HLL.out (by omega) HL0.out HB0.out (by omega) hn
  have hn0 : n0 ≤ 9223372036854775807 := by omega
  clear h0 b0 l0 hx w1
  go_enter Try.func4, Try.ntmps4
  go_wp2_with fail
  refine (Picked_bd a1 100 x _ (by omega) (by omega) HW1.out HX.out).mono ?_
  rintro e z0 ⟨rfl, hz0⟩
  obtain rfl : w = z0 := hz0.symm
  go_wp2_with fail
  refine HDd.out.mono ?_
  rintro e z1 ⟨⟨D, aD, aF, aR, cD, cF, cR, hDl, hDok, rfl, hTD, hTF, hTR⟩, hx1⟩
  obtain ⟨m, hm⟩ : ∃ m, D.length = m := ⟨_, rfl⟩
  obtain ⟨mr, hmr⟩ : ∃ mr, (playL n (fun _ => 0) D).2.length = mr := ⟨_, rfl⟩
  obtain ⟨hbeh, hbdr, hlr, h0s⟩ := log_told n hn D (by omega)
  rw [hm] at hDl ⊢
  rw [hmr] at hlr ⊢
  have HM : Hid (D.length = m) := hm
  have HMR : Hid ((playL n (fun _ => 0) D).2.length = mr) := hmr
  have HTD : Hid (Tri z1 aD (fndV D)) := hTD
  have HTF : Hid (Tri z1 aF (fndV (playL n (fun _ => 0) D).1)) := hTF
  have HTR : Hid (Tri z1 aR (recV (playL n (fun _ => 0) D).2)) := hTR
  have HBEH : Hid (behS (n : Int) (playL n (fun _ => 0) D).2 = .inr (shut (endS n D))) := hbeh
  have HBDR : Hid (BddR (playL n (fun _ => 0) D).2) := hbdr
  have H0S : Hid (∀ i, n ≤ i → endS n D i = 0) := h0s
  have HOK : Hid (∀ d, d ∈ D → DeedOk n d) := hDok
  have HX1 : Hid (Ext w z1) := hx1
  clear hDok hTD hTF hTR hbeh hbdr h0s hm hmr hx1 HDd
  go_wp2_with (first | (at_builtin; refine append_tri z1 rfl (.const (.slice none 0 0)) (.tmp 32) 26 rfl z1.heap.size 69 (.agg #[.bool false, .int .i64 0, .int .i64 0]) 24 Try.underlying26 infoRec3 rfl (.slice none 0 0) 0 [] rfl (World.ownsRow_nil _ _ _ _) aR mr cR (recV (playL n (fun _ => 0) D).2) (by unfold recV; rw [List.length_map, HMR.out]) rfl HTR.out (rec_one3 _) (by omega) (by omega) (by omega) (Nat.le_refl _) ?_) | go_in)
  intro v2 z2 hown2 hgrow2
  have HX2 : Hid (Ext z1 z2) := (Ext.refl z1).grow hgrow2 fun _ hk => by cases hk
  have hown2' : z2.ownsRow z1.heap.size 69 3 v2 mr (fl3 (recV (playL n (fun _ => 0) D).2)) := by simpa using hown2
  obtain ⟨_, a2, c2, rfl, htri2⟩ := own_tri hown2'
  have HR1 := Replay_any (n : Int) a2 mr c2 _ z2 HMR.out (by omega) htri2 HBDR.out
  clear hown2 hown2' hgrow2 htri2
  go_wp2_with fail
  refine HR1.mono ?_
  rintro e z3 ⟨vr, er, rfl, hrep, hx3⟩
  rw [HBEH.out] at hrep
  obtain ⟨rfl, a3, c3, rfl, hrn⟩ := rest_told hn hrep
  obtain ⟨hmay, hsz, hbdd, hl50⟩ := free_may hn (endS n D)
  obtain ⟨kf, hkf⟩ : ∃ kf, (freeL n (endS n D)).length = kf := ⟨_, rfl⟩
  rw [hkf] at hl50 ⊢
  have HKF : Hid ((freeL n (endS n D)).length = kf) := hkf
  have HRN : Hid (Rngs z3 a3 (freeL n (endS n D))) := hrn
  have HMAY : Hid (mayB (freeL n (endS n D)) = true) := hmay
  have HSZ : Hid (sizeV (freeL n (endS n D)) = cntS (endS n D) 0 n) := hsz
  have HBDD : Hid (Bdd (freeL n (endS n D))) := hbdd
  have HX3 : Hid (Ext z1 z3) := HX2.out.trans hx3
  clear hmay hsz hbdd hkf hrn hrep HR1 hx3
  go_wp2_with (first | (at_builtin; refine append_tri z3 rfl (.const (.slice none 0 0)) (.tmp 39) 26 rfl z3.heap.size 69 (.agg #[.bool false, .int .i64 0, .int .i64 0]) 24 Try.underlying26 infoRec3 rfl (.slice none 0 0) 0 [] rfl (World.ownsRow_nil _ _ _ _) aR mr cR (recV (playL n (fun _ => 0) D).2) (by unfold recV; rw [List.length_map, HMR.out]) rfl (HTR.out.ext HX3.out) (rec_one3 _) (by omega) (by omega) (by omega) (Nat.le_refl _) ?_) | go_in)
  intro v4 z4 hown4 hgrow4
  have HX4 : Hid (Ext z3 z4) := (Ext.refl z3).grow hgrow4 fun _ hk => by cases hk
  have hown4' : z4.ownsRow z3.heap.size 69 3 v4 mr (fl3 (recV (playL n (fun _ => 0) D).2)) := by simpa using hown4
  obtain ⟨_, a4, c4, rfl, htri4⟩ := own_tri hown4'
  have HC1 := Condense_any (n : Int) a4 mr c4 _ z4 HMR.out (by omega) htri4 HBDR.out
  clear hown4 hown4' hgrow4 htri4
  go_wp2_with fail
  refine HC1.mono ?_
  rintro e z5 ⟨vc, ec, rfl, hcon, hx5⟩
  rw [HBEH.out] at hcon
  obtain ⟨rfl, ⟨a5, c5, rfl, hfew⟩, hhalf, hbeh2, hbdr2⟩ := few_told hn H0S.out hcon
  obtain ⟨kt, hkt⟩ : ∃ kt, (takeL n (endS n D)).length = kt := ⟨_, rfl⟩
  rw [hkt] at hhalf ⊢
  have HX5 : Hid (Ext z3 z5) := HX4.out.trans hx5
  have HR2 := Replay_any (n : Int) a5 kt c5 _ z5 hkt (by omega) hfew hbdr2
  rw [hbeh2] at HR2
  clear hcon hfew hbeh2 hbdr2 hkt HC1 hx5
  go_wp2_with fail
  refine HR2.mono ?_
  rintro e z6 ⟨vq, eq, rfl, hrep, hx6⟩
  obtain ⟨rfl, a6, c6, rfl, hrn6⟩ := rest_told hn hrep
  rw [HKF.out]
  have HX6 : Hid (Ext z3 z6) := HX5.out.trans hx6
  have HRN6 : Hid (Rngs z6 a6 (freeL n (endS n D))) := hrn6
  have HMY : Hid (∀ z, Ext z3 z → Calls Try.prog 12 #[.slice a3 kf c3] z fun e w' => e = .returned (.bool true) ∧ Ext z w') := fun z hz => by
    have h := SpMay_any a3 kf c3 _ z HKF.out (by omega) (HRN.out.ext hz) HBDD.out
    rw [HMAY.out] at h
    exact h
  have HSI : Hid (∀ z, Ext z3 z → Calls Try.prog 13 #[.slice a3 kf c3] z fun e w' => e = .returned (.int .i64 (cntS (endS n D) 0 n)) ∧ Ext z w') := fun z hz => by
    have h := SpSize_any a3 kf c3 _ z HKF.out (by omega) (HRN.out.ext hz) HBDD.out
    rw [HSZ.out] at h
    exact h
  have HSA : Hid (∀ z, Ext z6 z → Calls Try.prog 14 #[.slice a3 kf c3, .slice a6 kf c6] z fun e w' => e = .returned (.bool true) ∧ Ext z w') := fun z hz => keepSameR_any a3 a6 kf c3 c6 _ z HKF.out (by omega) (HRN.out.ext (HX6.out.trans hz)) (HRN6.out.ext hz)
  obtain ⟨cn, hcn⟩ : ∃ cn, cntS (endS n D) 0 n = cn := ⟨_, rfl⟩
  rw [hcn] at HSI
  have HCN : Hid (cntS (endS n D) 0 n = cn) := hcn
  have hwr2 : IntKind.i64.wrap (2 * (kt : Int)) = 2 * (kt : Int) := by rw [IntKind.wrap_i64]; omega
  have hwr3 : IntKind.i64.wrap ((n : Int) + 1) = (n : Int) + 1 := by rw [IntKind.wrap_i64]; omega
  have hle : (2 : Int) * (kt : Int) ≤ (n : Int) + 1 := by omega
  clear hrep hrn6 hx6 HR2 hcn hhalf
  by_cases hm0 : m = 0
  · subst hm0
    have hD0 : D = [] := List.length_eq_zero_iff.1 HM.out
    subst hD0
    have hcn2 : (n : Int) = cn := by rw [← HCN.out]; exact (cntS_free n).symm
    have hcnb : (cn == (n : Int)) = true := by rw [beq_iff_eq]; omega
    have HCN2 : Hid (cn = (n : Int)) := hcn2.symm
    clear hcn2
    go_wp2_with fail
    refine (HMY.out _ HX6.out).mono ?_
    rintro e z7 ⟨rfl, hx7⟩
    go_wp2_with fail
    refine (HSI.out _ (HX6.out.trans hx7)).mono ?_
    rintro e z8 ⟨rfl, hx8⟩
    go_wp2_with fail
    refine (HSA.out _ (hx7.trans hx8)).mono ?_
    rintro e z9 ⟨rfl, hx9⟩
    go_wp2_with fail
    go_ret
    exact ⟨ret_boolS (by simp), ((HX1.out.trans HX3.out).trans HX6.out).trans ((hx7.trans hx8).trans hx9)⟩
  · obtain ⟨p, rfl⟩ : ∃ p, m = p + 1 := ⟨m - 1, by omega⟩
    obtain ⟨lx, ly, hll⟩ := last_left n D (fun h => by have h2 := HM.out; rw [h] at h2; simp at h2)
    rw [HM.out, HCN.out, Nat.add_sub_cancel] at hll
    obtain ⟨bG, oG, rfl, _, _, hg2⟩ := deed_at (HTF.out.ext (HX3.out.trans HX6.out)) hll
    have hqq : IntKind.i64.wrap (((p + 1 : Nat) : Int) - 1) = (p : Int) := by rw [IntKind.wrap_i64]; omega
    have hq1i : (p : Int) < ((p + 1 : Nat) : Int) := by omega
    have hq0i : (0 : Int) < ((p + 1 : Nat) : Int) := by omega
    have hcnb : (cn == cn) = true := by rw [beq_iff_eq]
    clear hll
    go_wp2_with fail
    refine (HMY.out _ HX6.out).mono ?_
    rintro e z7 ⟨rfl, hx7⟩
    go_wp2_with fail
    refine (HSI.out _ (HX6.out.trans hx7)).mono ?_
    rintro e z8 ⟨rfl, hx8⟩
    go_wp2_with fail
    refine (HSA.out _ (hx7.trans hx8)).mono ?_
    rintro e z9 ⟨rfl, hx9⟩
    go_wp2_with fail
    go_ret
    exact ⟨ret_boolS (by simp), ((HX1.out.trans HX3.out).trans HX6.out).trans ((hx7.trans hx8).trans hx9)⟩
end Go.Proofs.Ytfpbiimjcdbaoaa.replaySame
