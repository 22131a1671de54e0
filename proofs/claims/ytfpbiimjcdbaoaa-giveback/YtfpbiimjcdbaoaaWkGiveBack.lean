/-
  What all gave back is all free, two commits on, in one piece: at every list of wishes and every number of units; no condition.
-/
import Derived.Test.YtfpbiimjcdbaoaaRows
import Derived.WalkKit
import Derived.ProofKit
import Derived.OpenShut
import Derived.ChangeOld
import Derived.Below
import Derived.BigQuiet
import Derived.Deep.CutRange
import Derived.Deep.QuietTactic
import Derived.Deep.RegionLaw
import Derived.Test.YtfpbiimjcdbaoaaOpn
import Derived.Test.YtfpbiimjcdbaoaaChecked
import Derived.Test.YtfpbiimjcdbaoaaSpaceOpen
import Derived.Test.YtfpbiimjcdbaoaaKeepSpace2
namespace Go.Proofs.Ytfpbiimjcdbaoaa.giveBack
open Go.ChangeShapes Go.WideShapes Go.ChangeAt Go.RowKit
set_option linter.unusedVariables false

set_option maxRecDepth 100000 in
set_option maxHeartbeats 4000000 in
theorem walk (a0 : Option Addr) (n0 c0 : Nat) (L0 : List (Int × Int × Int)) (a1 : Int) (w : World) (l0 : L0.length = n0) (h0 : Tri w a0 (L0.map int3)) (b0 : ∀ r, r ∈ L0 → InI64 r.1 ∧ InI64 r.2.1 ∧ InI64 r.2.2) (k0 : n0 ≤ c0 ∧ c0 ≤ 9223372036854775807) (w1 : -9223372036854775808 ≤ a1 ∧ a1 ≤ 9223372036854775807) :
    Calls Try.prog 6 #[.slice a0 n0 c0, .int .i64 a1] w fun e w' => e = .returned (.bool true) ∧ Ext w w' := by
  have HL0 : Hid (Tri w a0 (fndV L0)) := h0
  have HB0 : Hid (∀ r, r ∈ L0 → InI64 r.1 ∧ InI64 r.2.1 ∧ InI64 r.2.2) := b0
  have HLL : Hid (L0.length = n0) := l0
  obtain ⟨x, hx, hx1⟩ := picked_is a1 100 (by omega)
  have HX : Hid (a1 % 100 = (x : Int)) := hx
  have HW1 : Hid (-9223372036854775808 ≤ a1 ∧ a1 ≤ 9223372036854775807) := w1
  obtain ⟨n, hadd⟩ : ∃ n : Nat, 1 + (x : Int) = (n : Int) := ⟨x + 1, by omega⟩
  have hn : 1 ≤ n ∧ n ≤ 100 := by omega
  have HDd : Hid (Calls Try.prog 8 #[.slice a0 n0 c0, .int .i64 40, .int .i64 n] w fun e w' => DdRes n 40 e w' ∧ Ext w w') := Deeds_any a0 n0 c0 L0 40 n w HLL.out (by omega) HL0.out HB0.out (by omega) hn
  have hn0 : n0 ≤ 9223372036854775807 := by omega
  clear h0 b0 l0 hx w1
  go_enter Try.func6, Try.ntmps6
  go_wp2_with fail
  refine (Picked_bd a1 100 x _ (by omega) (by omega) HW1.out HX.out).mono ?_
  rintro e z0 ⟨rfl, hz0⟩
  obtain rfl : w = z0 := hz0.symm
  go_wp2_with fail
  refine HDd.out.mono ?_
  rintro e z1 ⟨⟨D, aD, aF, aR, cD, cF, cR, hDl, hDok, rfl, hTD, hTF, hTR⟩, hx1⟩
  obtain ⟨m, hm⟩ : ∃ m, D.length = m := ⟨_, rfl⟩
  obtain ⟨mr, hmr⟩ : ∃ mr, (playL n (fun _ => 0) D).2.length = mr := ⟨_, rfl⟩
  obtain ⟨hbeh, hbdr, hlr, h0s⟩ := log_told n hn D (by omega)
  rw [hm] at hDl ⊢
  rw [hmr] at hlr ⊢
  have HM : Hid (D.length = m) := hm
  have HMR : Hid ((playL n (fun _ => 0) D).2.length = mr) := hmr
  have HTD : Hid (Tri z1 aD (fndV D)) := hTD
  have HTF : Hid (Tri z1 aF (fndV (playL n (fun _ => 0) D).1)) := hTF
  have HTR : Hid (Tri z1 aR (recV (playL n (fun _ => 0) D).2)) := hTR
  have HBEH : Hid (behS (n : Int) (playL n (fun _ => 0) D).2 = .inr (shut (endS n D))) := hbeh
  have HBDR : Hid (BddR (playL n (fun _ => 0) D).2) := hbdr
  have H0S : Hid (∀ i, n ≤ i → endS n D i = 0) := h0s
  have HOK : Hid (∀ d, d ∈ D → DeedOk n d) := hDok
  have HX1 : Hid (Ext w z1) := hx1
  clear hDok hTD hTF hTR hbeh hbdr h0s hm hmr hx1 HDd
  have hmk := make_boolK n (by omega)
  have hn0i : (0 : Int) ≤ (n : Int) := by omega
  go_wp2_with (first | (at_builtin; refine append_tri _ rfl (.const (.slice none 0 0)) (.tmp 36) 24 rfl z1.heap.size 31 (.agg #[.int .i64 0, .int .i64 0, .int .i64 0]) 24 Try.underlying24 infoDd3 rfl (.slice none 0 0) 0 [] rfl (World.ownsRow_nil _ _ _ _) aD m cD (fndV D) (by unfold fndV; rw [List.length_map, HM.out]) rfl (HTD.out.ext ((Ext.refl z1).alloc _ _)) (fndV_one3 _) (by omega) (by omega) (by omega) ((Ext.refl z1).alloc _ _).size ?_) | go_in)
  intro v2 z2 hown2 hgrow2
  have hx2 : Ext (z1.alloc (.cells (madeCells #[.bool false] n) 4)) z2 := (Ext.refl _).grow hgrow2 fun _ hk => by cases hk
  have HX2 : Hid (Ext z1 z2) := ((Ext.refl z1).alloc _ _).trans hx2
  have HIN0 : Hid (z2.rowIs z1.heap.size 4 n (bt (endS n (D.take 0)))) := hx2.rowIs (World.rowIs_made z1 (.bool false) n 4)
  have HO2 : Hid (z2.ownsRow z1.heap.size 31 3 v2 m (fl3 (fndV D))) := by
    show World.ownsRow ..
    simpa using hown2
  clear hmk hown2 hgrow2 hx2
  go_wp2_with fail
  go_loopw [12] (fun i wr => ∃ q : Nat, q ≤ m ∧ i = .int .i64 q ∧ Wro (· = z1.heap.size) z2 wr ∧ wr.rowIs z1.heap.size 4 n (bt (endS n (D.take q)))) (fun i _ => m - (intOf i).toNat)
  case atStart => exact ⟨0, Nat.zero_le _, rfl, Wro.refl _ _, HIN0.out⟩
  case round =>
    obtain ⟨q, hq, rfl, hx, hu⟩ := hrel
    have HXR : Hid (Wro (· = z1.heap.size) z2 wr) := hx
    by_cases hlt : q < m
    · obtain ⟨⟨dk, df, dc⟩, h1, h2, h3⟩ := drop_at (L := D) (k := q) (by rw [HM.out]; exact hlt)
      obtain ⟨t1, t2⟩ := told_at n D q h1
      have hdok := HOK.out _ h3
      obtain ⟨S, hS⟩ : ∃ S, endS n (D.take q) = S := ⟨_, rfl⟩
      rw [hS] at t1 t2 hu
      have HU : Hid (wr.rowIs z1.heap.size 4 n (bt S)) := hu
      obtain ⟨b, o, rfl, hc0, hc1, hc2⟩ := deed_at HTD.out h1
      obtain ⟨bF, oF, rfl, hy0, hy1, hy2⟩ := deed_at HTF.out t1
      have hbz : b < z1.heap.size := World.block_lt_of_cell? _ _ hc0
      have hbFz : bF < z1.heap.size := World.block_lt_of_cell? _ _ hy0
      obtain ⟨rc, hrc⟩ : ∃ rc, (doS n S (dk, df, dc)).code = rc := ⟨_, rfl⟩
      obtain ⟨rp, hrp⟩ : ∃ rp, (doS n S (dk, df, dc)).place = rp := ⟨_, rfl⟩
      obtain ⟨st, hst⟩ : ∃ st, (doS n S (dk, df, dc)).st = st := ⟨_, rfl⟩
      rw [hst] at t2
      rw [hrc] at hy0
      rw [hrp] at hy1
      have HRC : Hid ((doS n S (dk, df, dc)).code = rc ∧ (doS n S (dk, df, dc)).place = rp ∧ (doS n S (dk, df, dc)).st = st) := ⟨hrc, hrp, hst⟩
      have HNX : Hid (endS n (D.take (q + 1)) = st) := t2
      have HNB : Hid (b ≠ z1.heap.size ∧ bF ≠ z1.heap.size) := by show _ ∧ _; omega
      have hqi : (q : Int) < (m : Int) := by omega
      have HC0 : Hid (z2.cell? ⟨b, o + q * 3, none⟩ = some (.int .i64 dk)) := HX2.out.keeps hc0
      have HC1 : Hid (z2.cell? ⟨b, o + q * 3 + 1, none⟩ = some (.int .i64 df)) := HX2.out.keeps hc1
      have HC2 : Hid (z2.cell? ⟨b, o + q * 3 + 2, none⟩ = some (.int .i64 dc)) := HX2.out.keeps hc2
      have HF0 : Hid (z2.cell? ⟨bF, oF + q * 3, none⟩ = some (.int .i64 rc)) := HX2.out.keeps hy0
      have HF1 : Hid (z2.cell? ⟨bF, oF + q * 3 + 1, none⟩ = some (.int .i64 rp)) := HX2.out.keeps hy1
      have HDOK : Hid (DeedOk n (dk, df, dc)) := hdok
      clear h1 h2 h3 t1 t2 hS hrc hrp hst hdok hc0 hc1 hc2 hy0 hy1 hy2 hu HIN0
      by_cases hrc0 : rc = 0
      · obtain rfl : rc = 0 := hrc0
        rcases HDOK.out with ⟨hd1, hd2, hd3, hd4⟩ | hd | ⟨hd1, hd2, hd3, hd4⟩
        · simp only at hd1 hd2 hd3 hd4
          subst hd1 hd2
          obtain ⟨t1, t2, t3, _, t5⟩ := take_ok n S 0 dc HRC.out.1
          rw [HRC.out.2.1] at t2 t3 t5
          rw [HRC.out.2.2] at t5
          obtain ⟨X, rfl⟩ : ∃ X : Nat, rp = X := ⟨rp.toNat, by omega⟩
          obtain ⟨c, rfl⟩ : ∃ c : Nat, dc = c := ⟨dc.toNat, by omega⟩
          have HST : Hid (st = putS S X (X + c) 1) := by
            show _ = _
            rw [t5, Int.toNat_natCast, show ((X : Int) + (c : Int)).toNat = X + c by omega]
          clear t5 hx
          go_wp2_with fail
          go_loopw [13] (fun i wk => ∃ k : Nat, k ≤ c ∧ i = .int .i64 k ∧ Wro (· = z1.heap.size) z2 wk ∧ wk.rowIs z1.heap.size 4 n (bt (putS S X (X + k) 1))) (fun i _ => c - (intOf i).toNat)
          case atStart => exact ⟨0, Nat.zero_le _, rfl, HXR.out, by rw [Nat.add_zero, putS_none]; exact HU.out⟩
          case round =>
            obtain ⟨k, hk, rfl, hwk, huk⟩ := hrel
            have HWK : Hid (Wro (· = z1.heap.size) z2 wr) := hwk
            have HUK : Hid (wr.rowIs z1.heap.size 4 n (bt (putS S X (X + k) 1))) := huk
            have f0 := hwk.cell HC0.out HNB.out.1
            have f1 := hwk.cell HC1.out HNB.out.1
            have f2 := hwk.cell HC2.out HNB.out.1
            have f3 := hwk.cell HF0.out HNB.out.2
            have f4 := hwk.cell HF1.out HNB.out.2
            clear hwk huk
            by_cases hlk : k < c
            · obtain ⟨p, hp⟩ : ∃ p, X + k = p := ⟨_, rfl⟩
              have hwp : IntKind.i64.wrap ((X : Int) + (k : Int)) = (p : Int) := by rw [IntKind.wrap_i64]; omega
              have hpn : (p : Int) < (n : Int) := by omega
              have hpn1 : ¬ (n : Int) ≤ (p : Int) := by omega
              have hpn2 : p < n := by omega
              have hpn3 : ¬ n ≤ p := by omega
              have hcell := HUK.out.cell hpn2
              have hfz := HUK.out.frozen p
              have hki : (k : Int) < (c : Int) := by omega
              have HP : Hid (X + k = p) := hp
              clear hp
              go_wp2_with fail
              go_roundw
              case rel => exact ⟨k + 1, by omega, by go_num, HWK.out.setCell rfl _, bt_set HUK.out HP.out rfl⟩
              case measure => simp [intOf]; omega
            · obtain rfl : k = c := by omega
              have hki : ¬ (k : Int) < (k : Int) := by omega
              go_wp2_with fail
              go_roundw
              case rel => exact ⟨q + 1, by omega, by go_num, HWK.out, by rw [HNX.out, HST.out]; exact HUK.out⟩
              case measure => simp [intOf]; omega
        · simp only [Prod.mk.injEq] at hd
          obtain ⟨rfl, rfl, rfl⟩ := hd
          have HST : Hid (bt st = bt S) := by
            show _ = _
            rw [← HRC.out.2.2]
            show bt (comS S) = bt S
            unfold bt
            rw [tkn_com]
          have f2 := hx.cell HC2.out HNB.out.1
          clear hx
          go_wp2_with fail
          go_loop [13] (fun i => i = .int .i64 0) (fun _ => 0)
          case atStart => rfl
          case round =>
            obtain rfl := hrel
            go_wp2_with fail
            go_roundw
            case rel => exact ⟨q + 1, by omega, by go_num, HXR.out, by rw [HNX.out, HST.out]; exact HU.out⟩
            case measure => simp [intOf]; omega
        · simp only at hd1 hd2 hd3 hd4
          subst hd1
          obtain ⟨t1, t2, t3, _, t5⟩ := give_ok n S df dc HRC.out.1
          rw [HRC.out.2.2] at t5
          obtain ⟨X, rfl⟩ : ∃ X : Nat, df = X := ⟨df.toNat, by omega⟩
          obtain ⟨c, rfl⟩ : ∃ c : Nat, dc = c := ⟨dc.toNat, by omega⟩
          have HST : Hid (st = putS S X (X + c) 2) := by
            show _ = _
            rw [t5, Int.toNat_natCast, show ((X : Int) + (c : Int)).toNat = X + c by omega]
          clear t5 hx
          go_wp2_with fail
          go_loopw [13] (fun i wk => ∃ k : Nat, k ≤ c ∧ i = .int .i64 k ∧ Wro (· = z1.heap.size) z2 wk ∧ wk.rowIs z1.heap.size 4 n (bt (putS S X (X + k) 2))) (fun i _ => c - (intOf i).toNat)
          case atStart => exact ⟨0, Nat.zero_le _, rfl, HXR.out, by rw [Nat.add_zero, putS_none]; exact HU.out⟩
          case round =>
            obtain ⟨k, hk, rfl, hwk, huk⟩ := hrel
            have HWK : Hid (Wro (· = z1.heap.size) z2 wr) := hwk
            have HUK : Hid (wr.rowIs z1.heap.size 4 n (bt (putS S X (X + k) 2))) := huk
            have f0 := hwk.cell HC0.out HNB.out.1
            have f1 := hwk.cell HC1.out HNB.out.1
            have f2 := hwk.cell HC2.out HNB.out.1
            have f3 := hwk.cell HF0.out HNB.out.2
            have f4 := hwk.cell HF1.out HNB.out.2
            clear hwk huk
            by_cases hlk : k < c
            · obtain ⟨p, hp⟩ : ∃ p, X + k = p := ⟨_, rfl⟩
              have hwp : IntKind.i64.wrap ((X : Int) + (k : Int)) = (p : Int) := by rw [IntKind.wrap_i64]; omega
              have hpn : (p : Int) < (n : Int) := by omega
              have hpn1 : ¬ (n : Int) ≤ (p : Int) := by omega
              have hpn2 : p < n := by omega
              have hpn3 : ¬ n ≤ p := by omega
              have hcell := HUK.out.cell hpn2
              have hfz := HUK.out.frozen p
              have hki : (k : Int) < (c : Int) := by omega
              have HP : Hid (X + k = p) := hp
              clear hp
              go_wp2_with fail
              go_roundw
              case rel => exact ⟨k + 1, by omega, by go_num, HWK.out.setCell rfl _, bt_set HUK.out HP.out rfl⟩
              case measure => simp [intOf]; omega
            · obtain rfl : k = c := by omega
              have hki : ¬ (k : Int) < (k : Int) := by omega
              go_wp2_with fail
              go_roundw
              case rel => exact ⟨q + 1, by omega, by go_num, HWK.out, by rw [HNX.out, HST.out]; exact HUK.out⟩
              case measure => simp [intOf]; omega
      · have hrcb : (rc == 0) = false := by rw [beq_eq_false_iff_ne]; exact hrc0
        have hdn := do_not n S (dk, df, dc) (by rw [HRC.out.1]; exact hrc0)
        have HST : Hid (st = S) := by show _ = _; rw [← HRC.out.2.2]; exact hdn
        have hdc : 0 < dc := by
          rcases HDOK.out with ⟨_, _, h3, _⟩ | hd | ⟨_, _, h3, _⟩
          · simp only at h3; omega
          · simp only [Prod.mk.injEq] at hd
            obtain ⟨rfl, rfl, rfl⟩ := hd
            exact absurd HRC.out.1.symm hrc0
          · simp only at h3; omega
        have f2 := hx.cell HC2.out HNB.out.1
        have f3 := hx.cell HF0.out HNB.out.2
        clear hrc0 hdn hx
        go_wp2_with fail
        go_loop [13] (fun i => i = .int .i64 0) (fun _ => 0)
        case atStart => rfl
        case round =>
          obtain rfl := hrel
          go_wp2_with fail
          go_roundw
          case rel => exact ⟨q + 1, by omega, by go_num, HXR.out, by rw [HNX.out, HST.out]; exact HU.out⟩
          case measure => simp [intOf]; omega
    · obtain rfl : m = q := by omega
      have hqi : ¬ (m : Int) < (m : Int) := by omega
      have HTK : Hid (wr.rowIs z1.heap.size 4 n (bt (endS n D))) := by rw [show D.take m = D by rw [← HM.out]; exact List.take_length] at hu; exact hu
      have HO3 : Hid (wr.ownsRow z1.heap.size 31 3 v2 m (fl3 (fndV D))) := own_row HIN0.out HO2.out hx (by decide)
      have HXE : Hid (Ext z1 wr) := Wro.after HX2.out hx fun i hi => by rw [hi]; exact Nat.le_refl _
      obtain ⟨S, hS⟩ : ∃ S, endS n D = S := ⟨_, rfl⟩
      have HS : Hid (endS n D = S) := hS
      rw [hS] at HTK
      clear hu hx hS HXR HO2 HIN0
      go_wp2_with fail
      go_loopw [11, 15] (fun v i wr => ∃ k : Nat, k ≤ n ∧ i = .int .i64 k ∧ Ext z1 wr ∧ wr.rowIs z1.heap.size 4 n (bt S) ∧ wr.ownsRow z1.heap.size 31 3 v (m + (givL S k).length) (fl3 (fndV (D ++ givL S k)))) (fun _ i _ => n - (intOf i).toNat)
      case atStart => exact ⟨0, Nat.zero_le _, rfl, HXE.out, HTK.out, by show World.ownsRow ..; rw [show givL S 0 = [] from rfl, List.append_nil]; exact HO3.out⟩
      case round =>
        obtain ⟨k, hk, rfl, hx, hu, ho⟩ := hrel
        have HXR : Hid (Ext z1 wr) := hx
        have HU : Hid (wr.rowIs z1.heap.size 4 n (bt S)) := hu
        have hgl := givL_len S k
        have HO : Hid (wr.ownsRow z1.heap.size 31 3 u11 (m + (givL S k).length) (fl3 (fndV (D ++ givL S k)))) := ho
        have hsz := hx.size
        clear hx hu ho HTK HO3
        by_cases hlk : k < n
        · have hki : (k : Int) < (n : Int) := by omega
          have hcell := HU.out.cell hlk
          by_cases h1 : S k = 1
          · have hcell2 : wr.cell? ⟨z1.heap.size, k, none⟩ = some (.bool true) := by rw [hcell]; show some (Value.bool (S k == 1)) = _; rw [h1]; rfl
            have HG1 : Hid (givL S (k + 1) = givL S k ++ [(2, (k : Int), 1)]) := givL_yes h1
            clear h1 hcell
            go_wp2_with (first | (at_builtin; refine append_tri _ rfl (.tmp 106) (.tmp 109) 24 rfl z1.heap.size 31 (.agg #[.int .i64 0, .int .i64 0, .int .i64 0]) 24 Try.underlying24 infoDd3 rfl u11 (m + (givL S k).length) (fndV (D ++ givL S k)) rfl (own_ext HO.out ((Ext.refl wr).alloc _ _)) (some ⟨wr.heap.size, 0, none⟩) 1 1 [(IV 2, IV (k : Int), IV 1)] rfl rfl (tri_new _ _ rfl _ _ _ _) (fnd_one _ _ _) (by omega) (by omega) (by omega) (Nat.le_trans hsz ((Ext.refl wr).alloc _ _).size) ?_) | go_in)
            intro v5 w5 hown5 hgrow5
            have xA : Ext wr (wr.alloc (.cells #[.int .i64 2, .int .i64 (k : Int), .int .i64 1] 31)) := (Ext.refl wr).alloc _ _
            have HX5 : Hid (Ext z1 w5) := (HXR.out.trans xA).grow hgrow5 fun _ hk => own_geS HO.out hk
            have HU5 : Hid (w5.rowIs z1.heap.size 4 n (bt S)) := row_keep (xA.rowIs HU.out) (own_ext HO.out xA) hgrow5 (by decide)
            have HO5 : Hid (w5.ownsRow z1.heap.size 31 3 v5 (m + (givL S (k + 1)).length) (fl3 (fndV (D ++ givL S (k + 1))))) := by
              show World.ownsRow ..
              rw [HG1.out, ← List.append_assoc, fndV_append (D ++ givL S k), List.length_append]
              exact hown5
            clear hown5 hgrow5 xA
            go_wp2_with fail
            go_roundw
            case rel => exact ⟨k + 1, by omega, by go_num, HX5.out, HU5.out, HO5.out⟩
            case measure => simp [intOf]; omega
          · have hcell2 : wr.cell? ⟨z1.heap.size, k, none⟩ = some (.bool false) := by rw [hcell]; show some (Value.bool (S k == 1)) = _; rw [beq_eq_false_iff_ne.2 h1]
            have HG1 : Hid (givL S (k + 1) = givL S k) := givL_no h1
            clear h1 hcell
            go_wp2_with fail
            go_roundw
            case rel => exact ⟨k + 1, by omega, by go_num, HXR.out, HU.out, by rw [HG1.out]; exact HO.out⟩
            case measure => simp [intOf]; omega
        · obtain rfl : n = k := by omega
          have hki : ¬ (n : Int) < (n : Int) := by omega
          obtain ⟨hb1, hb2, hb3, hb4, hb5⟩ := back_told n hn D (by rw [HM.out]; exact hDl)
          rw [HS.out, HM.out] at hb4
          rw [HS.out] at hb5
          have hbE := back_end n hn D
          have hbB := back_bdd n hn.2 D HOK.out
          obtain ⟨M, hM⟩ : ∃ M, m + (givL S n).length + 1 = M := ⟨_, rfl⟩
          obtain ⟨BD, hBD⟩ : ∃ BD, backD n D = BD := ⟨_, rfl⟩
          rw [hBD] at hb1 hb2 hb3 hb4 hbE hbB
          have HBD : Hid (backD n D = BD) := hBD
          have HBL : Hid (BD.length = M + 1) := by show _ = _; omega
          have HB1 : Hid (behS (n : Int) (playL n (fun _ => 0) BD).2 = .inr (shut fun _ => 0)) := hb1
          have HB2 : Hid (BddR (playL n (fun _ => 0) BD).2) := hb2
          have HBE : Hid (endS n BD = fun _ => 0) := hbE
          have HBB : Hid (BddD BD) := hbB
          have hM1 : M ≤ 200 := by omega
          have HMM : Hid (m + (givL S n).length + 1 = M) := hM
          obtain ⟨mr2, hmr2⟩ : ∃ x, (playL n (fun _ => 0) BD).2.length = x := ⟨_, rfl⟩
          rw [hmr2] at hb3
          have HMR2 : Hid ((playL n (fun _ => 0) BD).2.length = mr2) := hmr2
          clear hb1 hb2 hbE hbB hBD hM hmr2 hb4 hb5
          go_wp2_with (first | (at_builtin; refine append_tri _ rfl (.tmp 111) (.tmp 114) 24 rfl z1.heap.size 31 (.agg #[.int .i64 0, .int .i64 0, .int .i64 0]) 24 Try.underlying24 infoDd3 rfl u11 (m + (givL S n).length) (fndV (D ++ givL S n)) rfl (own_ext HO.out ((Ext.refl wr).alloc _ _)) (some ⟨wr.heap.size, 0, none⟩) 2 2 [(IV 3, IV 0, IV 0), (IV 3, IV 0, IV 0)] rfl rfl (tri_new2 _ _ rfl _ _ _ _ _ _ _) (fndV_one3 [(3, 0, 0), (3, 0, 0)]) (by omega) (by omega) (by omega) (Nat.le_trans hsz ((Ext.refl wr).alloc _ _).size) ?_) | go_in)
          intro v5 w5 hown5 hgrow5
          have HX5 : Hid (Ext z1 w5) := (HXR.out.trans ((Ext.refl wr).alloc _ _)).grow hgrow5 fun _ hk => own_geS HO.out hk
          have hown5' : w5.ownsRow z1.heap.size 31 3 v5 (M + 1) (fl3 (fndV BD)) := by
            rw [← HBD.out, ← HMM.out]
            unfold backD
            rw [HS.out, ← List.append_assoc, fndV_append (D ++ givL S n)]
            exact hown5
          obtain ⟨_, a5, c5, rfl, htri5⟩ := own_tri hown5'
          have HPl := Play_any (n : Int) a5 (M + 1) c5 BD w5 HBL.out (by omega) htri5 HBB.out
          clear hown5 hown5' hgrow5 htri5
          go_wp2_with fail
          refine HPl.mono ?_
          rintro e w7 ⟨vF, vR, er, rfl, hres, hx7⟩
          obtain ⟨rfl, aG, bG, cG, dG, mG, rfl, rfl, hmG, _, htriG, htriR⟩ := play_told (q := M + 1) hres HBL.out hn (by omega)
          rw [HMR2.out] at hmG
          subst hmG
          obtain ⟨lx, ly, hll⟩ := last_left n BD (fun h => by have h2 := HBL.out; rw [h] at h2; simp at h2)
          rw [HBL.out, HBE.out, cntS_free, Nat.add_sub_cancel] at hll
          have HLL : Hid ((playL n (fun _ => 0) BD).1[M]? = some (lx, ly, (n : Int))) := hll
          have HTG : Hid (Tri w7 aG (fndV (playL n (fun _ => 0) BD).1)) := htriG
          have HX7 : Hid (Ext z1 w7) := HX5.out.trans hx7
          have HC := Condense_any (n : Int) bG mr2 dG _ w7 HMR2.out (by omega) htriR HB2.out
          rw [HB1.out] at HC
          clear HPl hres hx7 htriG htriR hll
          go_wp2_with fail
          refine HC.mono ?_
          rintro e w8 ⟨vc, ec, rfl, hcon, hx8⟩
          obtain ⟨rfl, a8, c8, rfl⟩ := none_told hcon
          obtain ⟨bH, oH, rfl, hg0, hg1, hg2⟩ := deed_at (HTG.out.ext hx8) HLL.out
          have hqq : IntKind.i64.wrap (((M + 1 : Nat) : Int) - 1) = (M : Int) := by rw [IntKind.wrap_i64]; omega
          have hq1i : (M : Int) < ((M + 1 : Nat) : Int) := by omega
          have hself : (((M + 1 : Nat) : Int) == ((M + 1 : Nat) : Int)) = true := by simp
          have hselfn : ((n : Int) == (n : Int)) = true := by simp
          have hsum : m + (givL S n).length + 2 = M + 1 := by have := HMM.out; omega
          clear hcon HC
          go_wp2_with fail
          go_ret
          exact ⟨ret_boolS (by simp), HX1.out.trans (HX7.out.trans hx8)⟩
end Go.Proofs.Ytfpbiimjcdbaoaa.giveBack
