/-
  What is taken behind deeds is taken as low as may be; where that many do not lie free in one piece it is told: at every list of wishes, every number of units and every count; no condition.
-/
import Derived.Test.YtfpbiimjcdbaoaaRows
import Derived.WalkKit
import Derived.ProofKit
import Derived.OpenShut
import Derived.ChangeOld
import Derived.Below
import Derived.BigQuiet
import Derived.Deep.CutRange
import Derived.Deep.QuietTactic
import Derived.Deep.RegionLaw
import Derived.Test.YtfpbiimjcdbaoaaOpn
import Derived.Test.YtfpbiimjcdbaoaaChecked
import Derived.Test.YtfpbiimjcdbaoaaSpaceOpen
import Derived.Test.YtfpbiimjcdbaoaaKeepSpace
namespace Go.Proofs.Ytfpbiimjcdbaoaa.takeLeast
open Go.ChangeShapes Go.WideShapes Go.ChangeAt Go.RowKit
set_option linter.unusedVariables false

set_option maxRecDepth 100000 in
set_option maxHeartbeats 4000000 in
theorem walk (a0 : Option Addr) (n0 c0 : Nat) (L0 : List (Int × Int × Int)) (a1 : Int) (a2 : Int) (w : World) (l0 : L0.length = n0) (h0 : Tri w a0 (L0.map int3)) (b0 : ∀ r, r ∈ L0 → InI64 r.1 ∧ InI64 r.2.1 ∧ InI64 r.2.2) (k0 : n0 ≤ c0 ∧ c0 ≤ 9223372036854775807) (w1 : -9223372036854775808 ≤ a1 ∧ a1 ≤ 9223372036854775807) (w2 : -9223372036854775808 ≤ a2 ∧ a2 ≤ 9223372036854775807) :
    Calls Try.prog 5 #[.slice a0 n0 c0, .int .i64 a1, .int .i64 a2] w fun e w' => e = .returned (.bool true) ∧ Ext w w' := by
  have HL0 : Hid (Tri w a0 (fndV L0)) := h0
  have HB0 : Hid (∀ r, r ∈ L0 → InI64 r.1 ∧ InI64 r.2.1 ∧ InI64 r.2.2) := b0
  have HLL : Hid (L0.length = n0) := l0
  obtain ⟨x, hx, hx1⟩ := picked_is a1 100 (by omega)
  have HX : Hid (a1 % 100 = (x : Int)) := hx
  have HW1 : Hid (-9223372036854775808 ≤ a1 ∧ a1 ≤ 9223372036854775807) := w1
  have HW2 : Hid (-9223372036854775808 ≤ a2 ∧ a2 ≤ 9223372036854775807) := w2
  obtain ⟨n, hadd⟩ : ∃ n : Nat, 1 + (x : Int) = (n : Int) := ⟨x + 1, by omega⟩
  have hn : 1 ≤ n ∧ n ≤ 100 := by omega
  have HDd : Hid (Calls Try.prog 8 #[.slice a0 n0 c0, .int .i64 40, .int .i64 n] w fun e w' => DdRes n 40 e w' ∧ Ext w w') := Deeds_any a0 n0 c0 L0 40 n w HLL.out (by omega) HL0.out HB0.out (by omega) hn
  have hn0 : n0 ≤ 9223372036854775807 := by omega
  obtain ⟨y, hy, hy1⟩ := picked_is a2 n (by omega)
  have HY : Hid (a2 % (n : Int) = (y : Int)) := hy
  obtain ⟨k, hkadd⟩ : ∃ k : Nat, 1 + (y : Int) = (k : Int) := ⟨y + 1, by omega⟩
  have hk : 1 ≤ k ∧ k ≤ n := by omega
  clear h0 b0 l0 hx w1 w2 hy
  go_enter Try.func5, Try.ntmps5
  go_wp2_with fail
  refine (Picked_bd a1 100 x _ (by omega) (by omega) HW1.out HX.out).mono ?_
  rintro e z0 ⟨rfl, hz0⟩
  obtain rfl : w = z0 := hz0.symm
  go_wp2_with fail
  refine HDd.out.mono ?_
  rintro e z1 ⟨⟨D, aD, aF, aR, cD, cF, cR, hDl, hDok, rfl, hTD, hTF, hTR⟩, hx1⟩
  obtain ⟨m, hm⟩ : ∃ m, D.length = m := ⟨_, rfl⟩
  obtain ⟨mr, hmr⟩ : ∃ mr, (playL n (fun _ => 0) D).2.length = mr := ⟨_, rfl⟩
  obtain ⟨hbeh, hbdr, hlr, h0s⟩ := log_told n hn D (by omega)
  rw [hm] at hDl ⊢
  rw [hmr] at hlr ⊢
  have HM : Hid (D.length = m) := hm
  have HMR : Hid ((playL n (fun _ => 0) D).2.length = mr) := hmr
  have HTD : Hid (Tri z1 aD (fndV D)) := hTD
  have HTF : Hid (Tri z1 aF (fndV (playL n (fun _ => 0) D).1)) := hTF
  have HTR : Hid (Tri z1 aR (recV (playL n (fun _ => 0) D).2)) := hTR
  have HBEH : Hid (behS (n : Int) (playL n (fun _ => 0) D).2 = .inr (shut (endS n D))) := hbeh
  have HBDR : Hid (BddR (playL n (fun _ => 0) D).2) := hbdr
  have H0S : Hid (∀ i, n ≤ i → endS n D i = 0) := h0s
  have HOK : Hid (∀ d, d ∈ D → DeedOk n d) := hDok
  have HX1 : Hid (Ext w z1) := hx1
  clear hDok hTD hTF hTR hbeh hbdr h0s hm hmr hx1 HDd
  go_wp2_with fail
  refine (Picked_bd a2 n y _ (by omega) (by omega) HW2.out HY.out).mono ?_
  rintro e z1' ⟨rfl, hz1'⟩
  obtain rfl : z1 = z1' := hz1'.symm
  go_wp2_with (first | (at_builtin; refine append_tri z1 rfl (.const (.slice none 0 0)) (.tmp 41) 26 rfl z1.heap.size 69 (.agg #[.bool false, .int .i64 0, .int .i64 0]) 24 Try.underlying26 infoRec3 rfl (.slice none 0 0) 0 [] rfl (World.ownsRow_nil _ _ _ _) aR mr cR (recV (playL n (fun _ => 0) D).2) (by unfold recV; rw [List.length_map, HMR.out]) rfl HTR.out (rec_one3 _) (by omega) (by omega) (by omega) (Nat.le_refl _) ?_) | go_in)
  intro v2 z2 hown2 hgrow2
  have HX2 : Hid (Ext z1 z2) := (Ext.refl z1).grow hgrow2 fun _ hk => by cases hk
  have hown2' : z2.ownsRow z1.heap.size 69 3 v2 mr (fl3 (recV (playL n (fun _ => 0) D).2)) := by simpa using hown2
  obtain ⟨_, a2', c2, rfl, htri2⟩ := own_tri hown2'
  have HR1 := Replay_any (n : Int) a2' mr c2 _ z2 HMR.out (by omega) htri2 HBDR.out
  clear hown2 hown2' hgrow2 htri2
  go_wp2_with fail
  refine HR1.mono ?_
  rintro e z3 ⟨vr, er, rfl, hrep, hx3⟩
  rw [HBEH.out] at hrep
  obtain ⟨rfl, a3, c3, rfl, hrn⟩ := rest_told hn hrep
  obtain ⟨hmay, hsz, hbdd, hl50⟩ := free_may hn (endS n D)
  obtain ⟨kf, hkf⟩ : ∃ kf, (freeL n (endS n D)).length = kf := ⟨_, rfl⟩
  rw [hkf] at hl50 ⊢
  have HKF : Hid ((freeL n (endS n D)).length = kf) := hkf
  have HRN : Hid (Rngs z3 a3 (freeL n (endS n D))) := hrn
  have HMAY : Hid (mayB (freeL n (endS n D)) = true) := hmay
  have HBDD : Hid (Bdd (freeL n (endS n D))) := hbdd
  have HX3 : Hid (Ext z1 z3) := HX2.out.trans hx3
  have HFI := SpFirst_any a3 kf c3 (freeL n (endS n D)) (k : Int) z3 HKF.out (by omega) HRN.out HBDD.out
  have HMY : Hid (∀ z, Ext z3 z → Calls Try.prog 12 #[.slice a3 kf c3] z fun e w' => e = .returned (.bool true) ∧ Ext z w') := fun z hz => by
    have h := SpMay_any a3 kf c3 _ z HKF.out (by omega) (HRN.out.ext hz) HBDD.out
    rw [HMAY.out] at h
    exact h
  have HTT : Hid (((doS n (endS n D) (1, 0, (k : Int))).code, (doS n (endS n D) (1, 0, (k : Int))).place) = match fstL (k : Int) (freeL n (endS n D)) with | some x => (0, x) | none => (8, 0)) := take_told n (endS n D) k (by omega) (by omega)
  have HLS : Hid ((playL n (fun _ => 0) (D ++ [(1, 0, (k : Int))])).1[m]? = some ((doS n (endS n D) (1, 0, (k : Int))).code, (doS n (endS n D) (1, 0, (k : Int))).place, cntS (doS n (endS n D) (1, 0, (k : Int))).st 0 n)) := by
    have h := playL_last n (fun _ => 0) D (1, 0, (k : Int))
    rw [HM.out] at h
    exact h
  have HFV : Hid (fV (freeL n (endS n D)) (k : Int) = (fstL (k : Int) (freeL n (endS n D))).getD 0 ∧ fE (freeL n (endS n D)) (k : Int) = if (fstL (k : Int) (freeL n (endS n D))).isSome then 0 else 6) := by
    have h1 : (1 : Int) ≤ (k : Int) := by omega
    refine ⟨?_, ?_⟩
    · unfold fV
      rw [HMAY.out, decide_eq_true h1]
      rfl
    · unfold fE
      rw [HMAY.out, if_pos rfl, if_pos h1]
  clear hmay hsz hbdd hkf hrn hrep HR1 hx3
  go_wp2_with fail
  refine HFI.mono ?_
  rintro e z4 ⟨rfl, hx4⟩
  have HX4 : Hid (Ext z3 z4) := hx4
  have hDlen : (fndV D).length = m := by unfold fndV; rw [List.length_map, HM.out]
  clear HFI hx4
  go_wp2_with (first | (at_builtin; refine append_tri z4 rfl (.const (.slice none 0 0)) (.tmp 52) 24 rfl z4.heap.size 31 (.agg #[.int .i64 0, .int .i64 0, .int .i64 0]) 24 Try.underlying24 infoDd3 rfl (.slice none 0 0) 0 [] rfl (World.ownsRow_nil _ _ _ _) aD m cD (fndV D) hDlen rfl (HTD.out.ext (HX3.out.trans HX4.out)) (fndV_one3 _) (by omega) (by omega) (by omega) (Nat.le_refl _) ?_) | go_in)
  intro v5 z5 hown5 hgrow5
  have HX5 : Hid (Ext z4 z5) := (Ext.refl z4).grow hgrow5 fun _ hk => by cases hk
  have HO5 : Hid (z5.ownsRow z4.heap.size 31 3 v5 m (fl3 (fndV D))) := by
    show World.ownsRow ..
    simpa using hown5
  have hs5 := HX5.out.size
  clear hown5 hgrow5 hDlen
  go_wp2_with (first | (at_builtin; refine append_tri _ rfl (.tmp 53) (.tmp 56) 24 rfl z4.heap.size 31 (.agg #[.int .i64 0, .int .i64 0, .int .i64 0]) 24 Try.underlying24 infoDd3 rfl v5 m (fndV D) rfl (own_ext HO5.out ((Ext.refl z5).alloc _ _)) (some ⟨z5.heap.size, 0, none⟩) 1 1 [(IV 1, IV 0, IV (k : Int))] rfl rfl (tri_new _ _ rfl _ _ _ _) (fnd_one _ _ _) (by omega) (by omega) (by omega) ?_ ?_) | go_in)
  · exact Nat.le_trans hs5 ((Ext.refl z5).alloc _ _).size
  intro v6 z6 hown6 hgrow6
  have HX6 : Hid (Ext z4 z6) := (HX5.out.alloc _ _).grow hgrow6 fun _ hk => own_geS HO5.out hk
  obtain ⟨_, a6, c6, rfl, htri6⟩ := own_tri hown6
  have htri6' : Tri z6 a6 (fndV (D ++ [(1, 0, (k : Int))])) := by rw [fndV_snoc]; exact htri6
  have hbdD : BddD (D ++ [(1, 0, (k : Int))]) := snoc_all (fun r hr => by have := (HOK.out r hr).bd hn.2; omega) ⟨⟨(by decide : (-9223372036854775808 : Int) ≤ 0), (by decide : (0 : Int) ≤ 9223372036854775807)⟩, by show (-9223372036854775808 : Int) ≤ (k : Int); omega, by show (k : Int) ≤ 9223372036854775807; omega⟩
  have HPl := Play_any (n : Int) a6 (m + 1) c6 (D ++ [(1, 0, (k : Int))]) z6 (by rw [List.length_append, HM.out]; rfl) (by omega) htri6' hbdD
  clear hown6 hgrow6 htri6 htri6' hbdD
  go_wp2_with fail
  refine HPl.mono ?_
  rintro e z7 ⟨vF, vR, er, rfl, hres, hx7⟩
  obtain ⟨rfl, aG, bF, cG, dF, mR, rfl, rfl, _, _, htriG, _⟩ := play_told (q := m + 1) hres (by rw [List.length_append, HM.out]; rfl) hn (by omega)
  have HX7 : Hid (Ext z4 z7) := HX6.out.trans hx7
  have HTG : Hid (Tri z7 aG (fndV (playL n (fun _ => 0) (D ++ [(1, 0, (k : Int))])).1)) := htriG
  have hqq : IntKind.i64.wrap (((m + 1 : Nat) : Int) - 1) = (m : Int) := by rw [IntKind.wrap_i64]; omega
  have hq1i : (m : Int) < ((m + 1 : Nat) : Int) := by omega
  have hself : (((m + 1 : Nat) : Int) != ((m + 1 : Nat) : Int)) = false := by simp
  clear HPl hres hx7 htriG
  go_wp2_with fail
  refine (HMY.out _ (HX4.out.trans HX7.out)).mono ?_
  rintro e z8 ⟨rfl, hx8⟩
  obtain ⟨bG, oG, rfl, hg0, hg1, hg2⟩ := deed_at (HTG.out.ext hx8) HLS.out
  cases hf : fstL (k : Int) (freeL n (endS n D)) with
  | none =>
    have h1 := HTT.out
    have h2 := HFV.out
    rw [hf] at h1 h2
    simp only [Prod.mk.injEq] at h1
    rw [h1.1] at hg0
    rw [h1.2] at hg1
    have hv : fE (freeL n (endS n D)) (k : Int) = 6 := h2.2
    rw [hv]
    clear h1 h2 hv hf
    go_wp2_with fail
    go_ret
    exact ⟨ret_boolS (by simp), (HX1.out.trans HX3.out).trans ((HX4.out.trans HX7.out).trans (hx8.alloc _ _))⟩
  | some x9 =>
    have h1 := HTT.out
    have h2 := HFV.out
    rw [hf] at h1 h2
    simp only [Prod.mk.injEq] at h1
    rw [h1.1] at hg0
    rw [h1.2] at hg1
    have hv : fE (freeL n (endS n D)) (k : Int) = 0 := h2.2
    have hv2 : fV (freeL n (endS n D)) (k : Int) = x9 := h2.1
    rw [hv, hv2]
    have hxx : (x9 == x9) = true := by rw [beq_iff_eq]
    clear h1 h2 hv hv2 hf
    go_wp2_with fail
    go_ret
    exact ⟨ret_boolS (by simp), (HX1.out.trans HX3.out).trans ((HX4.out.trans HX7.out).trans (hx8.alloc _ _))⟩
end Go.Proofs.Ytfpbiimjcdbaoaa.takeLeast
