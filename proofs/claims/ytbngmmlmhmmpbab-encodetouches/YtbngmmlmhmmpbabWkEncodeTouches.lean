/-
  A byte that is changed changes all parity columns there, and nowhere else; no condition.
-/
import Derived.Test.YtbngmmlmhmmpbabRows
import Derived.WalkKit
import Derived.ProofKit
import Derived.OpenShut
import Derived.ChangeOld
import Derived.Below
import Derived.BigQuiet
import Derived.Deep.CutRange
import Derived.Deep.QuietTactic
import Derived.Deep.RegionLaw
import Derived.Test.YtbngmmlmhmmpbabOpen
import Derived.Test.YtbngmmlmhmmpbabChecked
import Derived.Test.YtbngmmlmhmmpbabOpenZ
import Derived.Test.YtbngmmlmhmmpbabKeepEnc
import Derived.Test.YtbngmmlmhmmpbabKeepCols
import Derived.Test.YtbngmmlmhmmpbabQuietTail1
import Derived.Test.YtbngmmlmhmmpbabParProd
namespace Go.Proofs.Ytbngmmlmhmmpbab.encodeTouches
open Go.ChangeShapes Go.WideShapes Go.ChangeAt Go.RowKit Go.Deep E
set_option linter.unusedVariables false
theorem wt_ne (j i : Nat) : wt j i ≠ ze := pw_ne (fun e => by cases e) _
/-- what a changed byte makes of a parity column -/
theorem enc_changed (n : Nat) (X : Nat → Nat → E) (i k : Nat) (b : E) (hi : i < n) (j p : Nat) :
    enc n (fun i' k' => if i' = i ∧ k' = k then ad (X i k) b else X i' k') j p = if p = k then ad (enc n X j p) (mu (wt j i) b) else enc n X j p := by
  by_cases e : p = k
  · rw [if_pos e]
    subst e
    unfold enc
    have h1 : mu (wt j i) b = sm n fun i' => if i' = i then mu (wt j i) b else ze := by
      rw [sm_one hi (fun i' => if i' = i then mu (wt j i) b else ze) (fun i' _ hne => if_neg hne), if_pos rfl]
    rw [h1, ← sm_ad]
    refine sm_congr fun i' _ => ?_
    dsimp only
    by_cases e : i' = i
    · subst e; rw [if_pos ⟨rfl, rfl⟩, if_pos rfl, mu_ad]
    · rw [if_neg (fun q => e q.1), if_neg e, ad_ze]
  · rw [if_neg e]
    unfold enc
    exact sm_congr fun i' _ => by dsimp only; rw [if_neg (fun q => e q.2)]
theorem same_bool (x : E) : (ev x != ev x) = false := by simp
theorem ad_differs (x b : E) (c : E) (hc : c ≠ ze) (hb : b ≠ ze) : (ev x != ev (ad x (mu c b))) = true := by
  rw [bne_iff_ne]
  intro q
  have h := ev_inj q
  have h2 : mu c b = ze := by
    have : ad x x = ad x (ad x (mu c b)) := by rw [← h]
    rw [ad_self, ad_ad] at this
    exact this.symm
  exact mu_ne hc hb h2
set_option maxRecDepth 100000 in
set_option maxHeartbeats 4000000 in
theorem walk (a0 : Option Addr) (n0 c0 : Nat) (f0 : Nat → E) (a1 : Int) (a2 : Int) (a3 : Int) (a4 : Int) (a5 : E) (w : World) (h0 : Byts w a0 n0 f0) (b0 : n0 ≤ c0 ∧ c0 ≤ 9223372036854775807) (z0 : c0 * 1 ≤ 140737488351232) (w1 : -9223372036854775808 ≤ a1 ∧ a1 ≤ 9223372036854775807) (w2 : -9223372036854775808 ≤ a2 ∧ a2 ≤ 9223372036854775807) (w3 : -9223372036854775808 ≤ a3 ∧ a3 ≤ 9223372036854775807) (w4 : -9223372036854775808 ≤ a4 ∧ a4 ≤ 9223372036854775807) :
    Calls Try.prog 3 #[.slice a0 n0 c0, .int .i64 a1, .int .i64 a2, .int .i64 a3, .int .i64 a4, .int .u8 (E.ev a5)] w fun e w' => e = .returned (.bool true) ∧ Ext w w' := by
  have HB : Hid (Byts w a0 n0 f0) := h0
  clear h0
  obtain ⟨b01, b02⟩ := b0
  obtain ⟨xn, hxn, hxn2⟩ := picked_is a1 12 (by omega)
  obtain ⟨xp, hxp, hxp2⟩ := picked_is a2 3 (by omega)
  have HN : Hid (a1 % 12 = xn) := hxn
  have HP : Hid (a2 % 3 = xp) := hxp
  clear hxn hxp
  go_enter Try.func3, Try.ntmps3
  go_wp2_with fail
  refine (Picked_bd a1 12 xn _ (by omega) (by omega) w1 HN.out).mono ?_
  rintro e v3 ⟨rfl, rfl⟩
  go_wp2_with fail
  refine (Picked_bd a2 3 xp _ (by omega) (by omega) w2 HP.out).mono ?_
  rintro e v4 ⟨rfl, rfl⟩
  obtain ⟨N, hN⟩ : ∃ N : Nat, 1 + xn = N := ⟨_, rfl⟩
  obtain ⟨q, hq⟩ : ∃ q : Nat, 1 + xp = q := ⟨_, rfl⟩
  have hNb : 1 ≤ N ∧ N ≤ 12 := by omega
  have hqb : 1 ≤ q ∧ q ≤ 3 := by omega
  have eN : (1 : Int) + (xn : Int) = (N : Int) := by omega
  have eq' : (1 : Int) + (xp : Int) = (q : Int) := by omega
  clear hN hq HN HP
  go_wp2_with fail
  refine (ColumnsOf_any _ n0 c0 f0 N _ ⟨hNb.1, by omega⟩ (by omega) (by omega) HB.out).mono ?_
  rintro e v5 ⟨vx, Vx, rfl, hX0⟩
  obtain ⟨m, hm⟩ : ∃ m : Nat, colLen n0 N = m := ⟨_, rfl⟩
  have hm64 : m ≤ 64 := by rw [← hm]; exact (colLen_le _ _).1
  rw [hm] at hX0
  obtain ⟨X, hXd⟩ : ∃ X : Nat → Nat → E, (fun i k => f0 (i * m + k)) = X := ⟨_, rfl⟩
  have hX : COf v4 v5 vx N m Vx X := by rw [← hXd]; exact hX0
  obtain ⟨ax, cx, Ax, Cx, rfl, hXc⟩ := hX.cols
  have hx5 := hX.ext
  have HX : Hid (Cols v5 ax N Ax (fun _ => m) Cx X) := hXc
  clear hX hXc hX0
  go_wp2_with fail
  refine (ColumnsOf_any _ n0 c0 f0 N _ ⟨hNb.1, by omega⟩ (by omega) (by omega) (HB.out.ext hx5)).mono ?_
  rintro e v6 ⟨vy, Vy, rfl, hY0⟩
  rw [hm] at hY0
  have hY : COf v5 v6 vy N m Vy X := by rw [← hXd]; exact hY0
  have HY : Hid (COf v5 v6 vy N m Vy X) := hY
  obtain ⟨ay, cy, Ay, Cy, rfl, hYc⟩ := hY.cols
  have HX6 : Hid (Cols v6 ax N Ax (fun _ => m) Cx X) := HX.out.ext hY.ext
  clear hXd hm hY0 HB hY
  obtain ⟨bx, ox, rfl, hcx⟩ := HX6.out.at (by omega)
  obtain ⟨by', oy, rfl, hcy⟩ := hYc.at (by omega)
  have hc0 := hcx 0 (by omega)
  rw [Nat.add_zero] at hc0
  have HCY : Hid (∀ r, r < N → v6.cell? ⟨by', oy + r, none⟩ = some (.slice (Ay r) m (Cy r))) := hcy
  clear hcx hcy hYc eN eq'
  have hN0 : (0 : Int) < (N : Int) := by omega
  by_cases hm0 : m = 0
  · have hB0 : ((m : Int) == 0) = true := by rw [hm0]; rfl
    clear hm0
    go_wp2_with fail
    refine (pMay_any _ N cx Ax _ Cx X _ (by omega) HX6.out).mono ?_
    rintro e v7 ⟨rfl, hx7⟩
    go_wp2_with fail
    go_ret
    refine ⟨ret_boolB ?_, (hx5.trans HY.out.ext).trans hx7⟩
    unfold pmayB
    rw [fromTo_true (by omega), alikeB_true fun r _ => by unfold colB; simp; omega]
    rfl
  · have hB0 : ((m : Int) == 0) = false := by rw [beq_eq_false_iff_ne]; omega
    have hm1 : 0 < m := by omega
    clear hm0
    obtain ⟨i0, hi0, hi02⟩ := picked_is a3 (N : Int) (by omega)
    obtain ⟨k0, hk0, hk02⟩ := picked_is a4 (m : Int) (by omega)
    have HI0 : Hid (a3 % (N : Int) = i0) := hi0
    have HK0 : Hid (a4 % (m : Int) = k0) := hk0
    clear hi0 hk0
    go_wp2_with fail
    refine (Picked_bd a3 N i0 _ (by omega) (by omega) w3 HI0.out).mono ?_
    rintro e v7 ⟨rfl, rfl⟩
    go_wp2_with fail
    refine (Picked_bd a4 m k0 _ (by omega) (by omega) w4 HK0.out).mono ?_
    rintro e v8 ⟨rfl, rfl⟩
    obtain ⟨g, cg, hVg, hcg, hfg, hset⟩ := HY.out.set (i := i0) (k := k0) (by omega) (by omega) (ad (X i0 k0) a5)
    have hci := HCY.out i0 (by omega)
    have hAi : Value.slice (Ay i0) m (Cy i0) = .slice (some ⟨g, 0, none⟩) m cg := by
      have h1 : Ay i0 = some ⟨g, 0, none⟩ ∧ Cy i0 = cg := by
        obtain ⟨a9, c9, hv9, h9⟩ := own_slice HY.out.top
        cases hv9
        obtain ⟨b9, o9, e9, hc9⟩ := h9 i0 (by omega)
        cases e9
        rw [hci] at hc9
        simp [show i0 < N by omega, hVg] at hc9
        exact hc9
      rw [h1.1, h1.2]
    rw [hAi] at hci
    have hxor := xor8_ev (X i0 k0) a5
    obtain ⟨ay2, cy2, Ay2, Cy2, hv2, hYc2⟩ := hset.cols
    cases hv2
    have HY2 : Hid (Cols (v8.setCell ⟨g, k0, none⟩ (.int .u8 (ev (ad (X i0 k0) a5)))) (some ⟨by', oy, none⟩) N Ay2 (fun _ => m) Cy2 fun i' k' => if i' = i0 ∧ k' = k0 then ad (X i0 k0) a5 else X i' k') := hYc2
    have HX7 : Hid (Cols (v8.setCell ⟨g, k0, none⟩ (.int .u8 (ev (ad (X i0 k0) a5)))) (some ⟨bx, ox, none⟩) N Ax (fun _ => m) Cx X) := HX.out.ext hset.ext
    have hx8 := hx5.trans hset.ext
    have HC0 : Hid ((v8.setCell ⟨g, k0, none⟩ (.int .u8 (ev (ad (X i0 k0) a5)))).cell? ⟨bx, ox, none⟩ = some (.slice (Ax 0) m (Cx 0))) := by
      obtain ⟨⟨b9, o9, e9, h9⟩, _⟩ := HX7.out 0 (by omega)
      cases e9
      rwa [Nat.add_zero] at h9
    clear hset hYc2 hVg hAi HI0 HK0
    go_wp2_with fail
    clear hcg hfg hci hc0
    generalize v8.setCell ⟨g, k0, none⟩ (.int .u8 (ev (ad (X i0 k0) a5))) = v9 at *
    refine (Encode_E _ N cx Ax Cx X m q _ hNb (by omega) hqb HX7.out).mono ?_
    rintro e v10 ⟨⟨sa, sc, sA, sC, rfl, hS⟩, hx10⟩
    have HS8 : Hid (Cols v10 sa q sA (fun _ => m) sC (enc N X)) := hS
    clear hS
    go_wp2_with fail
    refine (Encode_E _ N cy Ay2 Cy2 _ m q _ hNb (by omega) hqb (HY2.out.ext hx10)).mono ?_
    rintro e v11 ⟨⟨ta, tc, tA, tC, rfl, hT⟩, hx11⟩
    have HTT : Hid (Cols v11 ta q tA (fun _ => m) tC (enc N fun i' k' => if i' = i0 ∧ k' = k0 then ad (X i0 k0) a5 else X i' k')) := hT
    have HSS : Hid (Cols v11 sa q sA (fun _ => m) sC (enc N X)) := HS8.out.ext hx11
    have HCX0 : Hid (v11.cell? ⟨bx, ox, none⟩ = some (.slice (Ax 0) m (Cx 0))) := (hx10.trans hx11).keeps HC0.out
    have hend := (hx8.trans hx10).trans hx11
    clear hT HS8 HX7 HY2 HX HX6 HCY HY hx10 hx11 hx8 HC0 hx5
    have hBq : ((q : Int) != (q : Int)) = false := by simp
    have hBm : ((m : Int) != (m : Int)) = false := by simp
    go_wp2_with fail
    go_loopw [23] (fun i wr => ∃ j : Nat, j ≤ q ∧ i = .int .i64 j ∧ Ext v11 wr) (fun i _ => q - (intOf i).toNat)
    case atStart => exact ⟨0, Nat.zero_le _, rfl, Ext.refl _⟩
    case round =>
      obtain ⟨j, hj, rfl, hxj⟩ := hrel
      by_cases hjt : j < q
      · obtain ⟨⟨bs, os, rfl, hcs⟩, hS⟩ := HSS.out j hjt
        obtain ⟨⟨bt, ot, rfl, hct⟩, hT⟩ := HTT.out j hjt
        have hS1 : Hid (Byts v11 (sA j) m (enc N X j)) := hS
        have hT1 : Hid (Byts v11 (tA j) m (enc N (fun i' k' => if i' = i0 ∧ k' = k0 then ad (X i0 k0) a5 else X i' k') j)) := hT
        clear hS hT
        have gs := fun y : Gr wr => (hxj.trans y.ext).keeps hcs
        have gt := fun y : Gr wr => (hxj.trans y.ext).keeps hct
        have g0 := fun y : Gr wr => (hxj.trans y.ext).keeps HCX0.out
        go_wp2_with fail
        refine wp_region_grows 21 (by kernel_rfl) (by kernel_rfl) (fun hne => ?_)
        simp only [List.take_succ_cons, List.take_zero, List.drop_succ_cons, List.drop_zero]
        repeat (go_big_quiet_step (fail))
        refine wpQuiet_nil ?_
        intro w9 hw9
        obtain ⟨y, rfl⟩ := hw9
        clear gs gt g0
        go_wp2_with fail
        have hxy := hxj.trans y.ext
        generalize y.w' = wy at *
        go_loopw [24] (fun i wi => ∃ p : Nat, p ≤ m ∧ i = .int .i64 p ∧ Ext v11 wi) (fun i _ => m - (intOf i).toNat)
        case atStart => exact ⟨0, Nat.zero_le _, rfl, hxy⟩
        case round =>
          clear hxy hxj
          obtain ⟨p, hp, rfl, hxp⟩ := hrel
          have gs0 := hxp.keeps hcs
          by_cases hpt : p < m
          · obtain ⟨b1, o1, hA1, hb1⟩ := hS1.out p hpt
            obtain ⟨b2, o2, hA2, hb2⟩ := hT1.out p hpt
            rw [enc_changed N X i0 k0 a5 (by omega)] at hb2
            have gs := fun y : Gr wr => (hxp.trans y.ext).keeps hcs
            have gt := fun y : Gr wr => (hxp.trans y.ext).keeps hct
            have g1 := fun y : Gr wr => (hxp.trans y.ext).keeps hb1
            have hpm : (p : Int) < (m : Int) := by omega
            by_cases hpk : p = k0
            · rw [if_pos hpk] at hb2
              have g2 := fun y : Gr wr => (hxp.trans y.ext).keeps hb2
              have e1 : ((p : Int) == (k0 : Int)) = true := by rw [hpk]; simp
              by_cases hb0 : a5 = ze
              · rw [hb0, mu_ze, ad_ze] at g2
                have e2 := same_bool (enc N X j p)
                have e3 : (ev a5 != 0) = false := by rw [hb0]; rfl
                clear hb1 hb2 hpk hb0
                go_wp2_with fail
                clear gs0
                refine wp_region_grows 22 (by kernel_rfl) (by kernel_rfl) (fun hne => ?_)
                simp only [List.take_succ_cons, List.take_zero, List.drop_succ_cons, List.drop_zero]
                repeat (go_big_quiet_step (fail))
                refine wpQuiet_nil ?_
                intro w9 hw9
                obtain ⟨y2, rfl⟩ := hw9
                clear gs gt g1 g2
                go_wp2_with fail
                go_roundw
                case rel => exact ⟨p + 1, by omega, by go_num, hxp.trans y2.ext⟩
                case measure => simp [intOf]; omega
              · have e2 := ad_differs (enc N X j p) a5 (wt j i0) (wt_ne j i0) hb0
                have e3 : (ev a5 != 0) = true := by rw [bne_iff_ne]; exact fun z => hb0 (ev_inj z)
                clear hb1 hb2 hpk hb0
                go_wp2_with fail
                clear gs0
                refine wp_region_grows 22 (by kernel_rfl) (by kernel_rfl) (fun hne => ?_)
                simp only [List.take_succ_cons, List.take_zero, List.drop_succ_cons, List.drop_zero]
                repeat (go_big_quiet_step (fail))
                refine wpQuiet_nil ?_
                intro w9 hw9
                obtain ⟨y2, rfl⟩ := hw9
                clear gs gt g1 g2
                go_wp2_with fail
                go_roundw
                case rel => exact ⟨p + 1, by omega, by go_num, hxp.trans y2.ext⟩
                case measure => simp [intOf]; omega
            · rw [if_neg hpk] at hb2
              have g2 := fun y : Gr wr => (hxp.trans y.ext).keeps hb2
              have e1 : ((p : Int) == (k0 : Int)) = false := by rw [beq_eq_false_iff_ne]; omega
              have e2 := same_bool (enc N X j p)
              clear hb1 hb2 hpk
              go_wp2_with fail
              clear gs0
              refine wp_region_grows 22 (by kernel_rfl) (by kernel_rfl) (fun hne => ?_)
              simp only [List.take_succ_cons, List.take_zero, List.drop_succ_cons, List.drop_zero]
              repeat (go_big_quiet_step (fail))
              refine wpQuiet_nil ?_
              intro w9 hw9
              obtain ⟨y2, rfl⟩ := hw9
              clear gs gt g1 g2
              go_wp2_with fail
              go_roundw
              case rel => exact ⟨p + 1, by omega, by go_num, hxp.trans y2.ext⟩
              case measure => simp [intOf]; omega
          · go_wp2_with fail
            go_roundw
            case rel => exact ⟨j + 1, by omega, by go_num, hxp⟩
            case measure => simp [intOf]; omega
      · go_wp2_with fail
        go_ret
        exact ⟨rfl, hend.trans hxj⟩
end Go.Proofs.Ytbngmmlmhmmpbab.encodeTouches
