/-
  The parity of a sum is the sum of the parities, at every two lists of bytes and every two numbers; no condition.
-/
import Derived.Test.YtbngmmlmhmmpbaaRows
import Derived.WalkKit
import Derived.ProofKit
import Derived.OpenShut
import Derived.ChangeOld
import Derived.Below
import Derived.BigQuiet
import Derived.Deep.CutRange
import Derived.Deep.QuietTactic
import Derived.Deep.RegionLaw
import Derived.Test.YtbngmmlmhmmpbaaOpn
import Derived.Test.YtbngmmlmhmmpbaaChecked
import Derived.Test.YtbngmmlmhmmpbaaKeepEnc
import Derived.Test.YtbngmmlmhmmpbaaKeepCols
import Derived.Test.YtbngmmlmhmmpbaaQuiets
import Derived.Test.YtbngmmlmhmmpbaaParProd
namespace Go.Proofs.Ytbngmmlmhmmpbaa.encodeSums
open Go.ChangeShapes Go.WideShapes Go.ChangeAt Go.RowKit Go.Deep E
set_option linter.unusedVariables false

set_option maxRecDepth 100000 in
set_option maxHeartbeats 4000000 in
theorem walk (a0 : Option Addr) (n0 c0 : Nat) (f0 : Nat → E) (a1 : Option Addr) (n1 c1 : Nat) (f1 : Nat → E) (a2 : Int) (a3 : Int) (w : World) (h0 : Byts w a0 n0 f0) (b0 : n0 ≤ c0 ∧ c0 ≤ 9223372036854775807) (z0 : c0 * 1 ≤ 140737488351232) (h1 : Byts w a1 n1 f1) (b1 : n1 ≤ c1 ∧ c1 ≤ 9223372036854775807) (z1 : c1 * 1 ≤ 140737488351232) (w2 : -9223372036854775808 ≤ a2 ∧ a2 ≤ 9223372036854775807) (w3 : -9223372036854775808 ≤ a3 ∧ a3 ≤ 9223372036854775807) :
    Calls Try.prog 8 #[.slice a0 n0 c0, .slice a1 n1 c1, .int .i64 a2, .int .i64 a3] w fun e w' => e = .returned (.bool true) ∧ Ext w w' := by
  have HA : Hid (Byts w a0 n0 f0) := h0
  have HB : Hid (Byts w a1 n1 f1) := h1
  clear h0 h1
  obtain ⟨b01, b02⟩ := b0
  obtain ⟨b11, b12⟩ := b1
  obtain ⟨xn, hxn, hxn2⟩ := picked_is a2 12 (by omega)
  obtain ⟨xp, hxp, hxp2⟩ := picked_is a3 3 (by omega)
  have HN : Hid (a2 % 12 = xn) := hxn
  have HP : Hid (a3 % 3 = xp) := hxp
  clear hxn hxp
  obtain ⟨s, hs⟩ : ∃ s : Nat, min n0 n1 = s := ⟨_, rfl⟩
  have hs0 : s ≤ n0 := by omega
  have hs1 : s ≤ n1 := by omega
  have hsl0 := sub_h (P := Try.prog) Try.underlying32 sizeB a0 n0 c0 s (by omega) (s : Int) rfl
  have hsl1 := sub_h (P := Try.prog) Try.underlying32 sizeB a1 n1 c1 s (by omega) (s : Int) rfl
  have HA1 : Hid (Byts w (subA a0 c0 0) s fun i => f0 (0 + i)) := HA.out.sub 0 s (by omega) fun h0 b o ha => by rw [ha, subA_some (by omega)]
  have HB1 : Hid (Byts w (subA a1 c1 0) s fun i => f1 (0 + i)) := HB.out.sub 0 s (by omega) fun h0 b o ha => by rw [ha, subA_some (by omega)]
  have HS : Hid (min n0 n1 = s) := hs
  clear hs
  go_enter Try.func8, Try.ntmps8
  go_wp2_with fail
  refine (Picked_bd a2 12 xn _ (by omega) (by omega) w2 HN.out).mono ?_
  rintro e v3 ⟨rfl, rfl⟩
  go_wp2_with fail
  refine (Picked_bd a3 3 xp _ (by omega) (by omega) w3 HP.out).mono ?_
  rintro e v4 ⟨rfl, rfl⟩
  go_upto_region 3 with fail
  go_cut [11] from 26 (fun v wc => v = .int .i64 (s : Int) ∧ Ext v4 wc)
  case first =>
    by_cases hle : (n0 : Int) ≤ n1
    · have hsn : (n0 : Int) = (s : Int) := by have := HS.out; omega
      go_wp2_with fail
      go_meet
      case rel => exact ⟨by rw [← hsn], Ext.refl _⟩
    · have hsn : (n1 : Int) = (s : Int) := by have := HS.out; omega
      go_wp2_with fail
      go_meet
      case rel => exact ⟨by rw [← hsn], Ext.refl _⟩
  case rest =>
    obtain ⟨rfl, hxc⟩ := hcut
    obtain ⟨N, hN⟩ : ∃ N : Nat, 1 + xn = N := ⟨_, rfl⟩
    obtain ⟨q, hq⟩ : ∃ q : Nat, 1 + xp = q := ⟨_, rfl⟩
    have hNb : 1 ≤ N ∧ N ≤ 12 := by omega
    have hqb : 1 ≤ q ∧ q ≤ 3 := by omega
    rw [show (1 : Int) + (xn : Int) = (N : Int) by omega, show (1 : Int) + (xp : Int) = (q : Int) by omega]
    clear hN hq hxn2 hxp2 HN HP
    go_wp2_with fail
    refine (ColumnsOf_any _ s c0 (fun i => f0 (0 + i)) N _ ⟨hNb.1, by omega⟩ (by omega) (by omega) (HA1.out.ext hxc)).mono ?_
    rintro e v5 ⟨vx, Vx, rfl, hX⟩
    obtain ⟨m, hm⟩ : ∃ m : Nat, colLen s N = m := ⟨_, rfl⟩
    have hm64 : m ≤ 64 := by rw [← hm]; exact (colLen_le _ _).1
    rw [hm] at hX
    have hX0 := hX
    clear hX
    obtain ⟨X, hXd⟩ : ∃ X : Nat → Nat → E, (fun i k => f0 (0 + (i * m + k))) = X := ⟨_, rfl⟩
    obtain ⟨Y, hYd⟩ : ∃ Y : Nat → Nat → E, (fun i k => f1 (0 + (i * m + k))) = Y := ⟨_, rfl⟩
    have hX : COf wc v5 vx N m Vx X := by rw [← hXd]; exact hX0
    clear hX0
    obtain ⟨ax, cx, Ax, Cx, rfl, hXc⟩ := hX.cols
    have hx5 := hxc.trans hX.ext
    have HX : Hid (Cols v5 ax N Ax (fun _ => m) Cx X) := hXc
    clear hX hXc hXd
    go_wp2_with fail
    refine (ColumnsOf_any _ s c1 (fun i => f1 (0 + i)) N _ ⟨hNb.1, by omega⟩ (by omega) (by omega) (HB1.out.ext hx5)).mono ?_
    rintro e v6 ⟨vy, Vy, rfl, hY⟩
    rw [hm] at hY
    have hY0 := hY
    clear hY
    have hY : COf v5 v6 vy N m Vy Y := by rw [← hYd]; exact hY0
    clear hY0
    obtain ⟨ay, cy, Ay, Cy, rfl, hYc⟩ := hY.cols
    have hx6 := hY.ext
    have HX6 : Hid (Cols v6 ax N Ax (fun _ => m) Cx X) := HX.out.ext hx6
    have HY6 : Hid (Cols v6 ay N Ay (fun _ => m) Cy Y) := hYc
    have hx46 := hx5.trans hx6
    clear hY hYc hYd hx6 hx5 HX hm HA HB HA1 HB1 hsl0 hsl1 HS hxc
    obtain ⟨bx, ox, rfl, hcx⟩ := HX6.out.at (by omega)
    obtain ⟨by', oy, rfl, hcy⟩ := HY6.out.at (by omega)
    have HCX : Hid (∀ r, r < N → v6.cell? ⟨bx, ox + r, none⟩ = some (.slice (Ax r) m (Cx r))) := hcx
    have HCY : Hid (∀ r, r < N → v6.cell? ⟨by', oy + r, none⟩ = some (.slice (Ay r) m (Cy r))) := hcy
    clear hcx hcy
    go_wp2_with fail
    go_loopw [14, 15] (fun v i wr => ∃ k : Nat, k ≤ N ∧ i = .int .i64 k ∧ ∃ V, COf v6 wr v k m V fun i k => ad (X i k) (Y i k)) (fun _ i _ => N - (intOf i).toNat)
    case atStart => exact ⟨0, Nat.zero_le _, rfl, _, COf.start _ _ _⟩
    case round =>
      obtain ⟨k, hk, rfl, V, hco⟩ := hrel
      have HZ : Hid (COf v6 wr u14 k m V fun i k => ad (X i k) (Y i k)) := hco
      clear hco
      by_cases hkt : k < N
      · generalize hw0 : wr = wk at *
        clear hw0
        go_wp2_with fail
        go_loopw [16, 17] (fun v i wi => ∃ p : Nat, p ≤ m ∧ i = .int .i64 p ∧ Ext wk wi ∧ wi.ownsRow wk.heap.size 5 1 v p ((List.range p).map (bvs fun k' => ad (X k k') (Y k k')))) (fun _ i _ => m - (intOf i).toNat)
        case atStart => exact ⟨0, Nat.zero_le _, rfl, Ext.refl _, World.ownsRow_nil _ _ _ _⟩
        case round =>
          obtain ⟨p, hp, rfl, hxi, hown⟩ := hrel
          have HO : Hid (wr.ownsRow wk.heap.size 5 1 u16 p ((List.range p).map (bvs fun k' => ad (X k k') (Y k k')))) := hown
          clear hown
          have hxz := HZ.out.ext.trans hxi
          by_cases hpt : p < m
          · have gx := fun y : Gr wr => (hxz.trans y.ext).keeps (HCX.out k hkt)
            have gy := fun y : Gr wr => (hxz.trans y.ext).keeps (HCY.out k hkt)
            have gx0 := hxz.keeps (HCX.out k hkt)
            obtain ⟨bX, oX, hAX, hbX⟩ := HX6.out.col hkt p hpt
            obtain ⟨bY, oY, hAY, hbY⟩ := HY6.out.col hkt p hpt
            have gX := fun y : Gr wr => (hxz.trans y.ext).keeps hbX
            have gY := fun y : Gr wr => (hxz.trans y.ext).keeps hbY
            have hxor := xor8_ev (X k p) (Y k p)
            clear hbX hbY
            go_wp2_with fail
            clear gx0
            refine wp_region_grows1 16 (by kernel_rfl) (by kernel_rfl) rfl _ rfl (fun _ _ _ h => h) (fun hne => ?_)
            simp only [List.take_succ_cons, List.take_zero, List.drop_succ_cons, List.drop_zero]
            repeat (go_big_quiet_step (fail))
            refine wpQuiet_nil ?_
            intro w9 hw9
            obtain ⟨y, rfl⟩ := hw9
            have HO9 : Hid (y.w'.ownsRow wk.heap.size 5 1 u16 p ((List.range p).map (bvs fun k' => ad (X k k') (Y k k')))) := own_ext HO.out y.ext
            have hx9 := hxi.trans y.ext
            have hs9 := hx9.size
            clear gx gy gX gY
            go_wp2_with (first | (at_builtin; refine append_one y.w' rfl _ _ 32 rfl wk.heap.size 5 (.int .u8 0) 1 Try.underlying32 infoByte rfl u16 p _ rfl HO9.out (.int .u8 (ev (ad (X k p) (Y k p)))) 1 rfl rfl (by omega) (by omega) hs9 ?_) | go_in)
            intro v' w10 hown' hgrow
            have hx10 : Ext wk w10 := (hx9.alloc _ _).grow hgrow fun b hb => (own_ge HO9.out hb).1
            have R1 : Hid (w10.ownsRow wk.heap.size 5 1 v' (p + 1) ((List.range (p + 1)).map (bvs fun k' => ad (X k k') (Y k k')))) := by
              rw [← range_bvs]; exact hown'
            clear hown' hgrow
            go_wp2_with fail
            go_roundw
            case rel => exact ⟨p + 1, by omega, by go_num, hx10, R1.out⟩
            case measure => simp [intOf]; omega
          · obtain rfl : m = p := by omega
            have gx0 := hxz.keeps (HCX.out k hkt)
            obtain ⟨a9, c9, rfl, h9⟩ := own_slice HO.out
            have HZ9 : Hid (COf v6 wr u14 k m V fun i k => ad (X i k) (Y i k)) := HZ.out.ext' hxi
            have HT : Hid (wr.ownsRow v6.heap.size 32 1 u14 k ((List.range k).map V)) := HZ9.out.top
            have HR : Hid (wr.ownsRow wk.heap.size 5 1 (.slice a9 m c9) m ((List.range m).map (bvs fun k' => ad (X k k') (Y k k')))) := HO.out
            have hsz5 := HZ9.out.ext.size
            clear h9
            go_wp2_with (first | (at_builtin; refine append_one wr rfl _ _ 22 rfl v6.heap.size 32 (.slice none 0 0) 24 Try.underlying22 infoBytes rfl u14 k _ rfl HT.out (.slice a9 m c9) 1 rfl rfl (by omega) (by omega) hsz5 ?_) | go_in)
            intro v' w8 hown' hgrow
            have HN : Hid (COf v6 w8 v' (k + 1) m (fun s => if s < k then V s else .slice a9 m c9) fun i k => ad (X i k) (Y i k)) := HZ.out.next hxi HR.out hown' hgrow
            clear hown' hgrow
            go_wp2_with fail
            go_roundw
            case rel => exact ⟨k + 1, by omega, by go_num, _, HN.out⟩
            case measure => simp [intOf]; omega
      · obtain rfl : N = k := by omega
        obtain ⟨az, cz, Az, Cz, rfl, hZc⟩ := HZ.out.cols
        have HZ6 : Hid (Cols wr az N Az (fun _ => m) Cz fun i k => ad (X i k) (Y i k)) := hZc
        have hx7 := HZ.out.ext
        clear hZc HZ
        go_wp2_with fail
        refine (Encode_E _ N cx Ax Cx X m q _ hNb (by omega) hqb (HX6.out.ext hx7)).mono ?_
        rintro e v8 ⟨⟨sa, sc, sA, sC, rfl, hS⟩, hx8⟩
        have HS8 : Hid (Cols v8 sa q sA (fun _ => m) sC (enc N X)) := hS
        clear hS
        go_wp2_with fail
        refine (Encode_E _ N cy Ay Cy Y m q _ hNb (by omega) hqb (HY6.out.ext (hx7.trans hx8))).mono ?_
        rintro e v9 ⟨⟨ta, tc, tA, tC, rfl, hT⟩, hx9⟩
        have HT9 : Hid (Cols v9 ta q tA (fun _ => m) tC (enc N Y)) := hT
        clear hT
        go_wp2_with fail
        refine (Encode_E _ N cz Az Cz _ m q _ hNb (by omega) hqb (HZ6.out.ext (hx8.trans hx9))).mono ?_
        rintro e v10 ⟨⟨ua, uc, uA, uC, rfl, hU⟩, hx10⟩
        have HU : Hid (Cols v10 ua q uA (fun _ => m) uC (enc N fun i k => ad (X i k) (Y i k))) := hU
        have HSS : Hid (Cols v10 sa q sA (fun _ => m) sC (enc N X)) := HS8.out.ext (hx9.trans hx10)
        have HTT : Hid (Cols v10 ta q tA (fun _ => m) tC (enc N Y)) := HT9.out.ext hx10
        have hxe := ((hx7.trans hx8).trans hx9).trans hx10
        have HCX0 : Hid (v10.cell? ⟨bx, ox, none⟩ = some (.slice (Ax 0) m (Cx 0))) := by
          have := hxe.keeps (HCX.out 0 (by omega))
          rwa [Nat.add_zero] at this
        have hend := hx46.trans hxe
        clear hU HS8 HT9 HZ6 HX6 HY6 HCX HCY hx7 hx8 hx9 hx10 hxe
        have hBq : ((q : Int) != (q : Int)) = false := by simp
        go_wp2_with fail
        have hBm : ((m : Int) != (m : Int)) = false := by simp
        go_loopw [24] (fun i wr => ∃ j : Nat, j ≤ q ∧ i = .int .i64 j ∧ Ext v10 wr) (fun i _ => q - (intOf i).toNat)
        case atStart => exact ⟨0, Nat.zero_le _, rfl, Ext.refl _⟩
        case round =>
          obtain ⟨j, hj, rfl, hxj⟩ := hrel
          by_cases hjt : j < q
          · obtain ⟨⟨bs, os, rfl, hcs⟩, hS⟩ := HSS.out j hjt
            obtain ⟨⟨bt, ot, rfl, hct⟩, hT⟩ := HTT.out j hjt
            obtain ⟨⟨bu, ou, rfl, hcu⟩, hU⟩ := HU.out j hjt
            have hS1 : Hid (Byts v10 (sA j) m (enc N X j)) := hS
            have hT1 : Hid (Byts v10 (tA j) m (enc N Y j)) := hT
            have hU1 : Hid (Byts v10 (uA j) m (enc N (fun i k => ad (X i k) (Y i k)) j)) := hU
            clear hS hT hU
            have gs := fun y : Gr wr => (hxj.trans y.ext).keeps hcs
            have gt := fun y : Gr wr => (hxj.trans y.ext).keeps hct
            have gu := fun y : Gr wr => (hxj.trans y.ext).keeps hcu
            have g0 := fun y : Gr wr => (hxj.trans y.ext).keeps HCX0.out
            have hN0 : (0 : Int) < (N : Int) := by omega
            go_wp2_with fail
            refine wp_region_grows 33 (by kernel_rfl) (by kernel_rfl) (fun hne => ?_)
            simp only [List.take_succ_cons, List.take_zero, List.drop_succ_cons, List.drop_zero]
            repeat (go_big_quiet_step (fail))
            refine wpQuiet_nil ?_
            intro w9 hw9
            obtain ⟨y, rfl⟩ := hw9
            clear gs gt gu g0
            go_wp2_with fail
            have hxy := hxj.trans y.ext
            generalize y.w' = wy at *
            go_loopw [25] (fun i wi => ∃ p : Nat, p ≤ m ∧ i = .int .i64 p ∧ Ext v10 wi) (fun i _ => m - (intOf i).toNat)
            case atStart => exact ⟨0, Nat.zero_le _, rfl, hxy⟩
            case round =>
              clear hxy hxj
              obtain ⟨p, hp, rfl, hxp⟩ := hrel
              have gs0 := hxp.keeps hcs
              by_cases hpt : p < m
              · obtain ⟨b1, o1, hA1, hb1⟩ := hS1.out p hpt
                obtain ⟨b2, o2, hA2, hb2⟩ := hT1.out p hpt
                obtain ⟨b3, o3, hA3, hb3⟩ := hU1.out p hpt
                rw [sm_enc] at hb3
                have hxor := xor8_ev (enc N X j p) (enc N Y j p)
                have gs := fun y : Gr wr => (hxp.trans y.ext).keeps hcs
                have gt := fun y : Gr wr => (hxp.trans y.ext).keeps hct
                have gu := fun y : Gr wr => (hxp.trans y.ext).keeps hcu
                have g1 := fun y : Gr wr => (hxp.trans y.ext).keeps hb1
                have g2 := fun y : Gr wr => (hxp.trans y.ext).keeps hb2
                have g3 := fun y : Gr wr => (hxp.trans y.ext).keeps hb3
                clear hb1 hb2 hb3
                go_wp2_with fail
                clear gs0
                refine wp_region_grows 22 (by kernel_rfl) (by kernel_rfl) (fun hne => ?_)
                simp only [List.take_succ_cons, List.take_zero, List.drop_succ_cons, List.drop_zero]
                repeat (go_big_quiet_step (fail))
                refine wpQuiet_nil ?_
                intro w9 hw9
                obtain ⟨y2, rfl⟩ := hw9
                clear gs gt gu g1 g2 g3
                have hBv : (ev (ad (enc N X j p) (enc N Y j p)) != ev (ad (enc N X j p) (enc N Y j p))) = false := by simp
                go_wp2_with fail
                go_roundw
                case rel => exact ⟨p + 1, by omega, by go_num, hxp.trans y2.ext⟩
                case measure => simp [intOf]; omega
              · go_wp2_with fail
                go_roundw
                case rel => exact ⟨j + 1, by omega, by go_num, hxp⟩
                case measure => simp [intOf]; omega
          · go_wp2_with fail
            go_ret
            exact ⟨rfl, hend.trans hxj⟩
end Go.Proofs.Ytbngmmlmhmmpbaa.encodeSums
