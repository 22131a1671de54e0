/-
  No unit is taken twice, and what was given back rests till the second commit behind it: at every list of wishes and every number of units; no condition.
-/
import Derived.Test.YtfpbiimjcdbaoaaRows
import Derived.WalkKit
import Derived.ProofKit
import Derived.OpenShut
import Derived.ChangeOld
import Derived.Below
import Derived.BigQuiet
import Derived.Deep.CutRange
import Derived.Deep.QuietTactic
import Derived.Deep.RegionLaw
import Derived.Test.YtfpbiimjcdbaoaaOpn
import Derived.Test.YtfpbiimjcdbaoaaChecked
import Derived.Test.YtfpbiimjcdbaoaaSpaceOpen
import Derived.Test.YtfpbiimjcdbaoaaKeepSpace
namespace Go.Proofs.Ytfpbiimjcdbaoaa.takeApart
open Go.ChangeShapes Go.WideShapes Go.ChangeAt Go.RowKit
set_option linter.unusedVariables false

set_option maxRecDepth 100000 in
set_option maxHeartbeats 4000000 in
theorem walk (a0 : Option Addr) (n0 c0 : Nat) (L0 : List (Int × Int × Int)) (a1 : Int) (w : World) (l0 : L0.length = n0) (h0 : Tri w a0 (L0.map int3)) (b0 : ∀ r, r ∈ L0 → InI64 r.1 ∧ InI64 r.2.1 ∧ InI64 r.2.2) (k0 : n0 ≤ c0 ∧ c0 ≤ 9223372036854775807) (w1 : -9223372036854775808 ≤ a1 ∧ a1 ≤ 9223372036854775807) :
    Calls Try.prog 3 #[.slice a0 n0 c0, .int .i64 a1] w fun e w' => e = .returned (.bool true) ∧ Ext w w' := by
  have HL0 : Hid (Tri w a0 (fndV L0)) := h0
  have HB0 : Hid (∀ r, r ∈ L0 → InI64 r.1 ∧ InI64 r.2.1 ∧ InI64 r.2.2) := b0
  have HLL : Hid (L0.length = n0) := l0
  obtain ⟨x, hx, hx1⟩ := picked_is a1 100 (by omega)
  have HX : Hid (a1 % 100 = (x : Int)) := hx
  have HW1 : Hid (-9223372036854775808 ≤ a1 ∧ a1 ≤ 9223372036854775807) := w1
  obtain ⟨n, hadd⟩ : ∃ n : Nat, 1 + (x : Int) = (n : Int) := ⟨x + 1, by omega⟩
  have hn : 1 ≤ n ∧ n ≤ 100 := by omega
  have HDd : Hid (Calls Try.prog 8 #[.slice a0 n0 c0, .int .i64 60, .int .i64 n] w fun e w' => DdRes n 60 e w' ∧ Ext w w') := Deeds_any a0 n0 c0 L0 60 n w HLL.out (by omega) HL0.out HB0.out (by omega) hn
  have hn0 : n0 ≤ 9223372036854775807 := by omega
  clear h0 b0 l0 hx w1
  go_enter Try.func3, Try.ntmps3
  go_wp2_with fail
  refine (Picked_bd a1 100 x _ (by omega) (by omega) HW1.out HX.out).mono ?_
  rintro e z0 ⟨rfl, hz0⟩
  obtain rfl : w = z0 := hz0.symm
  go_wp2_with fail
  refine HDd.out.mono ?_
  rintro e z1 ⟨⟨D, aD, aF, aR, cD, cF, cR, hDl, hDok, rfl, hTD, hTF, hTR⟩, hx1⟩
  obtain ⟨m, hm⟩ : ∃ m, D.length = m := ⟨_, rfl⟩
  obtain ⟨mr, hmr⟩ : ∃ mr, (playL n (fun _ => 0) D).2.length = mr := ⟨_, rfl⟩
  obtain ⟨hbeh, hbdr, hlr, h0s⟩ := log_told n hn D (by omega)
  rw [hm] at hDl ⊢
  rw [hmr] at hlr ⊢
  have HM : Hid (D.length = m) := hm
  have HMR : Hid ((playL n (fun _ => 0) D).2.length = mr) := hmr
  have HTD : Hid (Tri z1 aD (fndV D)) := hTD
  have HTF : Hid (Tri z1 aF (fndV (playL n (fun _ => 0) D).1)) := hTF
  have HTR : Hid (Tri z1 aR (recV (playL n (fun _ => 0) D).2)) := hTR
  have HBEH : Hid (behS (n : Int) (playL n (fun _ => 0) D).2 = .inr (shut (endS n D))) := hbeh
  have HBDR : Hid (BddR (playL n (fun _ => 0) D).2) := hbdr
  have H0S : Hid (∀ i, n ≤ i → endS n D i = 0) := h0s
  have HOK : Hid (∀ d, d ∈ D → DeedOk n d) := hDok
  have HX1 : Hid (Ext w z1) := hx1
  clear hDok hTD hTF hTR hbeh hbdr h0s hm hmr hx1 HDd
  have hmk := make_ints n (by omega)
  have hn0i : (0 : Int) ≤ (n : Int) := by omega
  go_wp2_with fail
  have HIN0 : Hid (Uns (z1.alloc (.cells (madeCells #[.int .i64 0] n) 3)) z1.heap.size 3 n (sn (endS n (D.take 0)))) := World.rowIs_made z1 (.int .i64 0) n 3
  clear hmk
  go_loopg [11] (m + 1) (fun gk i wr => ∃ q : Nat, gk = m - q + 1 ∧ q ≤ m ∧ i = .int .i64 q ∧ Ext z1 wr ∧ Uns wr z1.heap.size 3 n (sn (endS n (D.take q))))
  case atStart => exact ⟨0, rfl, Nat.zero_le _, rfl, (Ext.refl z1).alloc _ _, HIN0.out⟩
  case round =>
    obtain ⟨q, hgk, hq, rfl, hx, hu⟩ := hrel
    have HGK : Hid (gk = m - q + 1) := hgk
    have HXR : Hid (Ext z1 wr) := hx
    have HU : Hid (Uns wr z1.heap.size 3 n (sn (endS n (D.take q)))) := hu
    clear hgk hu HIN0
    by_cases hlt : q < m
    · obtain ⟨⟨dk, df, dc⟩, h1, h2, h3⟩ := drop_at (L := D) (k := q) (by rw [HM.out]; exact hlt)
      obtain ⟨t1, t2⟩ := told_at n D q h1
      have hdok := HOK.out _ h3
      obtain ⟨S, hS⟩ : ∃ S, endS n (D.take q) = S := ⟨_, rfl⟩
      have hin4 : In4 n S := by rw [← hS]; exact endS_in n _
      rw [hS] at t1 t2
      rw [hS] at HU
      have HIN4 : Hid (In4 n S) := hin4
      obtain ⟨b, o, rfl, hc0, hc1, hc2⟩ := deed_at (HTD.out.ext hx) h1
      obtain ⟨bF, oF, rfl, hy0, hy1, hy2⟩ := deed_at HTF.out t1
      have hbFz : bF < z1.heap.size := World.block_lt_of_cell? _ _ hy0
      have hf0 := hx.keeps hy0
      have hf1 := hx.keeps hy1
      have hf2 := hx.keeps hy2
      clear hy0 hy1 hy2
      obtain ⟨rc, hrc⟩ : ∃ rc, (doS n S (dk, df, dc)).code = rc := ⟨_, rfl⟩
      obtain ⟨rp, hrp⟩ : ∃ rp, (doS n S (dk, df, dc)).place = rp := ⟨_, rfl⟩
      obtain ⟨st, hst⟩ : ∃ st, (doS n S (dk, df, dc)).st = st := ⟨_, rfl⟩
      rw [hst] at hf2 t2
      rw [hrc] at hf0
      rw [hrp] at hf1
      have HRC : Hid ((doS n S (dk, df, dc)).code = rc ∧ (doS n S (dk, df, dc)).place = rp ∧ (doS n S (dk, df, dc)).st = st) := ⟨hrc, hrp, hst⟩
      have HNX : Hid (endS n (D.take (q + 1)) = st) := t2
      obtain ⟨lf, hlf⟩ : ∃ lf, cntS st 0 n = lf := ⟨_, rfl⟩
      rw [hlf] at hf2
      have HLF : Hid (cntS st 0 n = lf) := hlf
      have hqi : (q : Int) < (m : Int) := by omega
      have HF1 : Hid (wr.cell? ⟨bF, oF + q * 3 + 1, none⟩ = some (.int .i64 rp)) := hf1
      have HF2 : Hid (wr.cell? ⟨bF, oF + q * 3 + 2, none⟩ = some (.int .i64 lf)) := hf2
      have HDOK : Hid (DeedOk n (dk, df, dc)) := hdok
      have HNEF : Hid (bF ≠ z1.heap.size) := by show bF ≠ _; omega
      have HBB : Hid (wr.heap.size > bF ∧ wr.heap.size > z1.heap.size) := ⟨World.block_lt_of_cell? _ _ hf0, World.rowIs.lt HU.out⟩
      clear h1 h2 h3 t1 t2 hS hin4 hrc hrp hst hlf hx hf1 hf2 hdok
      by_cases hrc0 : rc = 0
      · obtain rfl : rc = 0 := hrc0
        have hf0' := alloc_keeps hf0 (.cells #[.int .i64 dk, .int .i64 df, .int .i64 dc] 31)
        go_upto_region 11 with fail
        have HBX : Hid ((wr.alloc (.cells #[.int .i64 dk, .int .i64 df, .int .i64 dc] 31)).heap[wr.heap.size]? = some (.cells #[.int .i64 dk, .int .i64 df, .int .i64 dc] 31 (0, 0))) := heap_alloc_new _ _
        have HXA : Hid (Ext wr (wr.alloc (.cells #[.int .i64 dk, .int .i64 df, .int .i64 dc] 31))) := (Ext.refl wr).alloc _ _
        clear hf0 hf0' hc0 hc1 hc2
        generalize hwA : wr.alloc (.cells #[.int .i64 dk, .int .i64 df, .int .i64 dc] 31) = wA at *
        obtain ⟨bx, hbx⟩ : ∃ bx, wr.heap.size = bx := ⟨_, rfl⟩
        rw [hbx] at HBX HBB ⊢
        have HF1A : Hid (wA.cell? ⟨bF, oF + q * 3 + 1, none⟩ = some (.int .i64 rp)) := HXA.out.keeps HF1.out
        have HF2A : Hid (wA.cell? ⟨bF, oF + q * 3 + 2, none⟩ = some (.int .i64 lf)) := HXA.out.keeps HF2.out
        have HUA : Hid (Uns wA z1.heap.size 3 n (sn S)) := HXA.out.rowIs HU.out
        have HXRA : Hid (Ext z1 wA) := HXR.out.trans HXA.out
        have HNE : Hid (bF ≠ z1.heap.size ∧ bx ≠ z1.heap.size) := ⟨HNEF.out, by have := HBB.out; omega⟩
        clear hwA hbx HF1 HF2 HU
        obtain ⟨g, hg⟩ : ∃ g, z1.heap.size = g := ⟨_, rfl⟩
        have HG : Hid (z1.heap.size = g) := hg
        rw [hg] at HUA HNE ⊢
        clear hg
        have hk0 := (row3_cells HBX.out).1
        go_upto_block 2 with fail
        clear hk0
        go_cut [13, 14, 15] (fun v13 v14 v15 wc => Wro (· = g) wA wc ∧ Uns wc g 3 n (sn st))
        case first =>
          rcases HDOK.out with ⟨hd1, hd2, hd3, hd4⟩ | hd | ⟨hd1, hd2, hd3, hd4⟩
          · simp only at hd1 hd2 hd3 hd4
            subst hd1 hd2
            obtain ⟨t1, t2, t3, t4, t5⟩ := take_ok n S 0 dc HRC.out.1
            rw [HRC.out.2.1] at t2 t3 t4 t5
            rw [HRC.out.2.2] at t5
            obtain ⟨X, rfl⟩ : ∃ X : Nat, rp = X := ⟨rp.toNat, by omega⟩
            obtain ⟨c, rfl⟩ : ∃ c : Nat, dc = c := ⟨dc.toNat, by omega⟩
            have HST : Hid (st = putS S X (X + c) 1) := by
              show _ = _
              rw [t5, Int.toNat_natCast, show ((X : Int) + (c : Int)).toNat = X + c by omega]
            have HZ : Hid (∀ i, X ≤ i → i < X + c → S i = 0) := fun i h1 h2 => t4 i (by omega) (by omega)
            have g1 : decide ((X : Int) < 0) = false := decide_eq_false (by omega)
            have g2 : decide ((n : Int) < (c : Int)) = false := decide_eq_false (by omega)
            have g3 : decide ((n : Int) - (c : Int) < (X : Int)) = false := decide_eq_false (by omega)
            have j2 : ¬ n < c := by omega
            have j3 : decide (n < c) = false := decide_eq_false j2
            have j4 : c ≤ n := by omega
            have j5 : (c : Int) ≤ (n : Int) := by omega
            have j6 : (X : Int) ≤ (n : Int) - (c : Int) := by omega
            have i1 : ¬ (X : Int) < 0 := by omega
            have i2 : ¬ (n : Int) < (c : Int) := by omega
            have i3 : ¬ (n : Int) - (c : Int) < (X : Int) := by omega
            have hwn : IntKind.i64.wrap ((n : Int) - (c : Int)) = (n : Int) - (c : Int) := by rw [IntKind.wrap_i64]; omega
            have k1 := HF1A.out
            obtain ⟨e0, e1, e2, _⟩ := row3_cells HBX.out
            clear t4 t5
            go_wp2_with fail
            go_quiet (fail)
            clear j2 j3 j4 j5 j6 g1 g2 g3 i1 i2 i3 hwn k1 e0 e1 e2
            go_wp2_with fail
            go_loopw [13] (fun i wr => ∃ k : Nat, k ≤ c ∧ i = .int .i64 k ∧ Wro (· = g) wA wr ∧ Uns wr g 3 n (sn (putS S X (X + k) 1))) (fun i _ => c - (intOf i).toNat)
            case atStart => exact ⟨0, Nat.zero_le _, rfl, Wro.ext ((Ext.refl wA).drewN _), by rw [Nat.add_zero, putS_none]; exact ((Ext.refl wA).drewN _).rowIs HUA.out⟩
            case round =>
              obtain ⟨k, hk, rfl, hwk, huk⟩ := hrel
              have HWK : Hid (Wro (· = g) wA wr) := hwk
              have HUK : Hid (Uns wr g 3 n (sn (putS S X (X + k) 1))) := huk
              have f1 := hwk.cell HF1A.out HNE.out.1
              have f2 := hwk.cell (row3_cells HBX.out).2.2.1 HNE.out.2
              clear hwk huk
              by_cases hlk : k < c
              · obtain ⟨p, hp⟩ : ∃ p, X + k = p := ⟨_, rfl⟩
                have hwp : IntKind.i64.wrap ((X : Int) + (k : Int)) = (p : Int) := by rw [IntKind.wrap_i64]; omega
                have hpn : (p : Int) < (n : Int) := by omega
                have hpn2 : p < n := by omega
                have hcell := HUK.out.cell hpn2
                have hzero : sn (putS S X (X + k) 1) p = 0 := by
                  unfold sn
                  rw [putS_out _ _ (by omega), HZ.out p (by omega) (by omega)]
                  rfl
                have hcell2 : wr.cell? ⟨g, p, none⟩ = some (.int .i64 0) := by rw [hcell]; show some (IV _) = _; rw [hzero]; rfl
                have hfz := HUK.out.frozen p
                have hki : (k : Int) < (c : Int) := by omega
                have HP : Hid (X + k = p) := hp
                clear hcell hzero hp
                go_wp2_with fail
                go_roundw
                case rel => exact ⟨k + 1, by omega, by go_num, HWK.out.setCell rfl _, sn_set HUK.out HP.out rfl⟩
                case measure => simp [intOf]; omega
              · obtain rfl : k = c := by omega
                go_wp2_with fail
                go_meet
                exact ⟨HWK.out, by rw [HST.out]; exact HUK.out⟩
          · simp only [Prod.mk.injEq] at hd
            obtain ⟨rfl, rfl, rfl⟩ := hd
            have HST : Hid (st = comS S) := HRC.out.2.2.symm
            have hk0 := (row3_cells HBX.out).1
            go_wp2_with fail
            go_loopw [15] (fun i wr => ∃ k : Nat, k ≤ n ∧ i = .int .i64 k ∧ Wro (· = g) wA wr ∧ Uns wr g 3 n (comK S k)) (fun i _ => n - (intOf i).toNat)
            case atStart => exact ⟨0, Nat.zero_le _, rfl, Wro.refl _ _, World.rowIs.congr HUA.out fun i _ => by unfold comK; rw [if_neg (Nat.not_lt_zero _)]⟩
            case round =>
              obtain ⟨k, hk, rfl, hwk, huk⟩ := hrel
              have HWK : Hid (Wro (· = g) wA wr) := hwk
              have HUK : Hid (Uns wr g 3 n (comK S k)) := huk
              clear hwk huk
              by_cases hlk : k < n
              · have hcell := HUK.out.cell hlk
                have hval : comK S k k = sinceV (S k) := by unfold comK; rw [if_neg (Nat.lt_irrefl _)]
                have hfz := HUK.out.frozen k
                have hki : (k : Int) < (n : Int) := by omega
                have hcm := sinceV_com n HIN4.out hlk
                obtain ⟨sv, hsv⟩ : ∃ sv, sinceV (S k) = sv := ⟨_, rfl⟩
                have hsb : -1 ≤ sv ∧ sv ≤ 2 := by rw [← hsv]; exact sinceV_bd _
                rw [hsv] at hval hcm
                have hcell2 : wr.cell? ⟨g, k, none⟩ = some (.int .i64 sv) := by rw [hcell]; show some (IV _) = _; rw [hval]; rfl
                have HSV : Hid (sinceV (S k) = sv) := hsv
                clear hcell hval hsv
                by_cases hpos : 0 < sv
                · rw [if_pos hpos] at hcm
                  have hws : IntKind.i64.wrap (sv - 1) = sv - 1 := by rw [IntKind.wrap_i64]; omega
                  have HCM : Hid (sinceV (comS S k) = sv - 1) := hcm
                  clear hcm
                  go_wp2_with fail
                  go_roundw
                  case rel => exact ⟨k + 1, by omega, by go_num, HWK.out.setCell rfl _, comK_set HUK.out HCM.out⟩
                  case measure => simp [intOf]; omega
                · rw [if_neg hpos] at hcm
                  have HCM : Hid (sinceV (comS S k) = sinceV (S k)) := by show _ = _; rw [hcm, HSV.out]
                  clear hcm
                  go_wp2_with fail
                  go_roundw
                  case rel => exact ⟨k + 1, by omega, by go_num, HWK.out, comK_skip HUK.out HCM.out⟩
                  case measure => simp [intOf]; omega
              · obtain rfl : n = k := by omega
                have HUE : Hid (Uns wr g 3 n (sn st)) := World.rowIs.congr HUK.out fun i hi => by unfold comK sn; rw [if_pos hi, HST.out]
                go_wp2_with fail
                go_meet
                exact ⟨HWK.out, HUE.out⟩
          · simp only at hd1 hd2 hd3 hd4
            subst hd1
            obtain ⟨t1, t2, t3, t4, t5⟩ := give_ok n S df dc HRC.out.1
            rw [HRC.out.2.2] at t5
            obtain ⟨X, rfl⟩ : ∃ X : Nat, df = X := ⟨df.toNat, by omega⟩
            obtain ⟨c, rfl⟩ : ∃ c : Nat, dc = c := ⟨dc.toNat, by omega⟩
            have HST : Hid (st = putS S X (X + c) 2) := by
              show _ = _
              rw [t5, Int.toNat_natCast, show ((X : Int) + (c : Int)).toNat = X + c by omega]
            have hk0 := (row3_cells HBX.out).1
            clear t4 t5
            go_wp2_with fail
            go_loopw [14] (fun i wr => ∃ k : Nat, k ≤ c ∧ i = .int .i64 k ∧ Wro (· = g) wA wr ∧ Uns wr g 3 n (sn (putS S X (X + k) 2))) (fun i _ => c - (intOf i).toNat)
            case atStart => exact ⟨0, Nat.zero_le _, rfl, Wro.refl _ _, by rw [Nat.add_zero, putS_none]; exact HUA.out⟩
            case round =>
              obtain ⟨k, hk, rfl, hwk, huk⟩ := hrel
              have HWK : Hid (Wro (· = g) wA wr) := hwk
              have HUK : Hid (Uns wr g 3 n (sn (putS S X (X + k) 2))) := huk
              have f1 := hwk.cell (row3_cells HBX.out).2.1 HNE.out.2
              have f2 := hwk.cell (row3_cells HBX.out).2.2.1 HNE.out.2
              clear hwk huk
              by_cases hlk : k < c
              · obtain ⟨p, hp⟩ : ∃ p, X + k = p := ⟨_, rfl⟩
                have hwp : IntKind.i64.wrap ((X : Int) + (k : Int)) = (p : Int) := by rw [IntKind.wrap_i64]; omega
                have hpn : (p : Int) < (n : Int) := by omega
                have hpn2 : p < n := by omega
                have hcell := HUK.out.cell hpn2
                have hfz := HUK.out.frozen p
                have hki : (k : Int) < (c : Int) := by omega
                have HP : Hid (X + k = p) := hp
                unfold IV at hcell
                clear hp
                go_wp2_with fail
                go_roundw
                case rel => exact ⟨k + 1, by omega, by go_num, HWK.out.setCell rfl _, sn_set HUK.out HP.out rfl⟩
                case measure => simp [intOf]; omega
              · obtain rfl : k = c := by omega
                go_wp2_with fail
                go_meet
                exact ⟨HWK.out, by rw [HST.out]; exact HUK.out⟩
        case rest =>
          obtain ⟨hwc, huc⟩ := hcut
          have HWC : Hid (Wro (· = g) wA wc) := hwc
          have HUC : Hid (Uns wc g 3 n (sn st)) := huc
          have f2 := hwc.cell HF2A.out HNE.out.1
          have hcz : cntS (sn st) 0 n = lf := by rw [← HLF.out]; exact cntS_since st n
          have HCZ : Hid (cntS (sn st) 0 n = lf) := hcz
          clear hwc huc hcz
          go_wp2_with fail
          go_loop [16, 17] (fun c i => ∃ k : Nat, k ≤ n ∧ i = .int .i64 k ∧ c = .int .i64 (cntS (sn st) 0 k)) (fun _ i => n - (intOf i).toNat)
          case atStart => exact ⟨0, Nat.zero_le _, rfl, rfl⟩
          case round =>
            obtain ⟨k, hk, rfl, rfl⟩ := hrel
            by_cases hlk : k < n
            · have hc := HUC.out.cell hlk
              unfold IV at hc
              have hb := cntS_bd (sn st) 0 k
              have hki : (k : Int) < (n : Int) := by omega
              by_cases h0 : sn st k = 0
              · have HE : Hid (cntS (sn st) 0 (k + 1) = cntS (sn st) 0 k + 1) := by
                  have h1 : (sn st k == 0) = true := by rw [beq_iff_eq]; exact h0
                  show cntS (sn st) 0 k + oneB (sn st k == 0) = _
                  rw [h1]
                  rfl
                rw [h0] at hc
                clear h0
                go_wp2_with fail
                go_round
                case rel => exact ⟨k + 1, by omega, by go_num, by rw [HE.out]⟩
                case measure => simp [intOf]; omega
              · have HE : Hid (cntS (sn st) 0 (k + 1) = cntS (sn st) 0 k) := by
                  have h1 : (sn st k == 0) = false := by rw [beq_eq_false_iff_ne]; exact h0
                  show cntS (sn st) 0 k + oneB (sn st k == 0) = _
                  rw [h1]
                  exact Int.add_zero _
                obtain ⟨sv, hsv⟩ : ∃ sv, sn st k = sv := ⟨_, rfl⟩
                rw [hsv] at hc h0
                have d0 : (sv == 0) = false := by rw [beq_eq_false_iff_ne]; exact h0
                clear h0 hsv
                go_wp2_with fail
                go_round
                case rel => exact ⟨k + 1, by omega, by go_num, by rw [HE.out]⟩
                case measure => simp [intOf]; omega
            · obtain rfl : n = k := by omega
              rw [HCZ.out]
              have hll : (lf != lf) = false := by simp
              have HXF : Hid (Ext z1 wc) := Wro.after HXRA.out HWC.out fun i hi => by rw [hi, HG.out]; exact Nat.le_refl _
              have hg2 : z1.heap.size = g := HG.out
              subst hg2
              go_wp2_with fail
              go_roundg (m - (q + 1) + 1)
              case measure => have := HGK.out; omega
              case rel => exact ⟨q + 1, rfl, by omega, by go_num, HXF.out, by rw [HNX.out]; exact HUC.out⟩
      · have hrcb : (rc != 0) = true := by rw [bne_iff_ne]; exact hrc0
        have hf0' := alloc_keeps hf0 (.cells #[.int .i64 dk, .int .i64 df, .int .i64 dc] 31)
        have hdn := do_not n S (dk, df, dc) (by rw [HRC.out.1]; exact hrc0)
        have HEQ : Hid (endS n (D.take (q + 1)) = S) := by show _ = _; rw [HNX.out, ← HRC.out.2.2]; exact hdn
        clear hrc0 hdn
        go_wp2_with fail
        go_roundg (m - (q + 1) + 1)
        case measure => have := HGK.out; omega
        case rel => exact ⟨q + 1, rfl, by omega, by go_num, HXR.out.alloc _ _, by rw [HEQ.out]; exact World.rowIs.alloc HU.out _⟩
    · obtain rfl : q = m := by omega
      have HP1 : Hid (Calls Try.prog 9 #[.int .i64 1, .slice (some ⟨wr.heap.size, 0, none⟩) 1 1] (wr.alloc (.cells #[.int .i64 1, .int .i64 0, .int .i64 1] 31)) fun e w' => ∃ v u er, e = .returned (.tuple #[v, u, .int .i64 er]) ∧ PlayRes (playQ ((1 : Nat) : Int) [(1, 0, 1)]) v u er w' ∧ Ext (wr.alloc (.cells #[.int .i64 1, .int .i64 0, .int .i64 1] 31)) w') :=
        Play_any ((1 : Nat) : Int) (some ⟨wr.heap.size, 0, none⟩) 1 1 [(1, 0, 1)] _ rfl (by omega) (tri_new wr _ rfl (IV 1) (IV 0) (IV 1) _) fun r hr => by
          obtain rfl := List.mem_singleton.1 hr
          exact ⟨⟨(by decide : (-9223372036854775808 : Int) ≤ 0), (by decide : (0 : Int) ≤ 9223372036854775807)⟩, (by decide : (-9223372036854775808 : Int) ≤ 1), (by decide : (1 : Int) ≤ 9223372036854775807)⟩
      clear hx
      go_wp2_with fail
      refine HP1.out.mono ?_
      rintro e w7 ⟨vF, vR, er, rfl, hres, hx7⟩
      obtain ⟨rfl, a9, b9, c9, d9, m9, rfl, rfl, _, _, htriF, _⟩ := play_told (n := 1) (q := 1) hres rfl (by omega) (by omega)
      rw [play_one] at htriF
      obtain ⟨b8, o8, rfl, hg0, hg1, hg2⟩ := deed_at (q := 0) htriF rfl
      rw [Nat.zero_mul, Nat.add_zero] at hg0 hg1 hg2
      clear htriF hres HP1
      go_wp2_with fail
      go_ret
      exact ⟨ret_boolS (by simp), HX1.out.trans ((HXR.out.alloc _ _).trans hx7)⟩
end Go.Proofs.Ytfpbiimjcdbaoaa.takeApart
