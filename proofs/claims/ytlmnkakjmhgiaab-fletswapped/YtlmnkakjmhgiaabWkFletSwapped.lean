/-
  Two neighbours that changed places are seen, unless they are the same: at every list of bytes and every number; no condition.
-/
import Derived.Test.YtlmnkakjmhgiaabRows
import Derived.WalkKit
import Derived.ProofKit
import Derived.OpenShut
import Derived.ChangeOld
import Derived.Below
import Derived.BigQuiet
import Derived.Deep.CutRange
import Derived.Deep.QuietTactic
import Derived.Deep.RegionLaw
import Derived.Test.YtlmnkakjmhgiaabOpn
import Derived.Test.YtlmnkakjmhgiaabChecked
import Derived.Test.YtlmnkakjmhgiaabKeepFlet
import Derived.Test.YtlmnkakjmhgiaabSameB
import Derived.Test.YtlmnkakjmhgiaabKeepTorn
namespace Go.Proofs.Ytlmnkakjmhgiaab.fletSwapped
open Go.ChangeShapes Go.WideShapes Go.ChangeAt Go.RowKit Go.Deep E
set_option linter.unusedVariables false

set_option maxRecDepth 100000 in
set_option maxHeartbeats 4000000 in
theorem walk (a0 : Option Addr) (n0 c0 : Nat) (f0 : Nat → E) (a1 : Int) (w : World) (h0 : Byts w a0 n0 f0) (b0 : n0 ≤ c0 ∧ c0 ≤ 9223372036854775807) (w1 : -9223372036854775808 ≤ a1 ∧ a1 ≤ 9223372036854775807) :
    Calls Try.prog 3 #[.slice a0 n0 c0, .int .i64 a1] w fun e w' => e = .returned (.bool true) ∧ Ext w w' := by
  have HB : Hid (Byts w a0 n0 f0) := h0
  clear h0
  have hwk := wk_le n0
  go_enter Try.func3, Try.ntmps3
  go_wp2_with fail
  refine (Words_any a0 n0 c0 f0 _ b0.1 b0.2 HB.out).mono ?_
  rintro e v1 ⟨⟨vx, rfl, hox⟩, hx1⟩
  obtain ⟨k, hk⟩ : ∃ k, wk n0 = k := ⟨_, rfl⟩
  rw [hk] at hox hwk
  clear hk HB
  obtain ⟨ax, cx, rfl, hbx, hcx⟩ := own_room hox
  have HX1 : Hid (Byts v1 ax (4 * k) f0) := hbx
  clear hox hbx
  by_cases h8 : 4 * k < 8
  · have h8' : ((4 * k : Nat) : Int) < 8 := by omega
    go_wp2_with fail
    refine (sure_any _).mono ?_
    rintro e v2 ⟨rfl, hx2⟩
    go_wp2_with fail
    go_ret
    exact ⟨rfl, hx1.trans hx2⟩
  · have h8' : ¬ ((4 * k : Nat) : Int) < 8 := by omega
    have hdiv : ((4 * k : Nat) : Int) / 4 = (k : Int) := by omega
    have hk2 : 2 ≤ k := by omega
    obtain ⟨p, hp, hp2⟩ := picked_is a1 ((k : Int) - 1) (by omega)
    have HP : Hid (a1 % ((k : Int) - 1) = p) := hp
    clear hp
    obtain ⟨bx, ox, rfl, hcell⟩ := HX1.out.at (by omega)
    clear hcell
    go_wp2_with fail
    refine (Picked_bd a1 ((k : Int) - 1) p _ (by omega) (by omega) w1 HP.out).mono ?_
    rintro e v2 ⟨rfl, rfl⟩
    obtain ⟨q, hq⟩ : ∃ q : Nat, q = 4 * p := ⟨_, rfl⟩
    have HQ : Hid (q = 4 * p) := hq
    have hq4 : (4 : Int) * (p : Int) = (q : Int) := by omega
    have hqk : q + 8 ≤ 4 * k := by omega
    have hk1 : 4 * k ≤ 400 := by omega
    clear hq
    have hs0 := sub_h (P := Try.prog) Try.underlying22 size8 (some ⟨bx, ox, none⟩) (4 * k) cx q (by omega) (q : Int) rfl
    rw [subA_some (by omega)] at hs0
    have H0F : Hid (∀ i, i < q → ∃ b o, (some ⟨bx, ox + 0, none⟩ : Option Addr) = some ⟨b, o, none⟩ ∧ v2.cell? ⟨b, o + i, none⟩ = some (bvs f0 i)) := fun i hi => by
      obtain ⟨b, o, h1, h2⟩ := HX1.out i (by omega)
      exact ⟨b, o, h1, h2⟩
    go_wp2_with (first | (at_builtin; refine append_vals v2 rfl (.const (.slice none 0 0)) (.tmp 27) 22 rfl v2.heap.size 5 (.int .u8 0) 1 Try.underlying22 infoByte rfl (.slice none 0 0) 0 [] rfl (World.ownsRow_nil _ _ _ _) (some ⟨bx, ox + 0, none⟩) q cx (bvs f0) rfl H0F.out (fun _ _ => rfl) (by omega) (by omega) (Nat.le_refl _) ?_) | fail)
    intro vy v3 hown3 hgrow3
    have HX3 : Hid (Ext v2 v3.drew) := ((Ext.refl v2).grow hgrow3 fun _ hk => by cases hk).drew
    have HOY : Hid (v3.drew.ownsRow v2.heap.size 5 1 vy q ((List.range q).map (bvs f0))) := own_ext hown3 (Ext.refl _).drew
    have HGE : Hid (∀ b, vy.ownBlock = some b → v2.heap.size ≤ b) := fun b hb => (own_ge hown3 hb).1
    have HZ3 : Hid (v2.heap.size ≤ v3.drew.heap.size) := HX3.out.size
    have HF1 : Hid (∀ W, Ext v2 W → ∀ i, i < 4 → ∃ b o, (some ⟨bx, ox + (q + 4), none⟩ : Option Addr) = some ⟨b, o, none⟩ ∧ W.cell? ⟨b, o + i, none⟩ = some (bvs (fun i => f0 ((q + 4) + i)) i)) := fun W x => (HX1.out.ext x).sub (q + 4) 4 (by omega) fun h0 b o ha => by cases ha; rfl
    have HF2 : Hid (∀ W, Ext v2 W → ∀ i, i < 4 → ∃ b o, (some ⟨bx, ox + q, none⟩ : Option Addr) = some ⟨b, o, none⟩ ∧ W.cell? ⟨b, o + i, none⟩ = some (bvs (fun i => f0 (q + i)) i)) := fun W x => (HX1.out.ext x).sub q 4 (by omega) fun h0 b o ha => by cases ha; rfl
    have HF3 : Hid (∀ W, Ext v2 W → ∀ i, i < 4 * k - (q + 8) → ∃ b o, subA (some ⟨bx, ox, none⟩) cx (q + 8) = some ⟨b, o, none⟩ ∧ W.cell? ⟨b, o + i, none⟩ = some (bvs (fun i => f0 ((q + 8) + i)) i)) := fun W x => (HX1.out.ext x).sub (q + 8) (4 * k - (q + 8)) (by omega) fun h0 b o ha => by cases ha; rw [subA_some (by omega)]
    clear hown3 hgrow3 H0F hs0
    have hs1 : ∀ w, (Instr.slice 22 (.slice (some ⟨bx, ox, none⟩) (4 * k) cx) (some (.int .i64 ((q : Int) + 4))) (some (.int .i64 ((q : Int) + 8))) none).run Try.prog w = .ok (.slice (some ⟨bx, ox + (q + 4), none⟩) 4 (cx - (q + 4))) w := fun w => by
      rw [sub_lh (P := Try.prog) Try.underlying22 size8 (some ⟨bx, ox, none⟩) (4 * k) cx (q + 4) 4 (by omega) ((q : Int) + 4) ((q : Int) + 8) (by omega) (by omega) w, subA_some (by omega)]
    have hs2 : ∀ w, (Instr.slice 22 (.slice (some ⟨bx, ox, none⟩) (4 * k) cx) (some (.int .i64 (q : Int))) (some (.int .i64 ((q : Int) + 4))) none).run Try.prog w = .ok (.slice (some ⟨bx, ox + q, none⟩) 4 (cx - q)) w := fun w => by
      rw [sub_lh (P := Try.prog) Try.underlying22 size8 (some ⟨bx, ox, none⟩) (4 * k) cx q 4 (by omega) (q : Int) ((q : Int) + 4) rfl (by omega) w, subA_some (by omega)]
    have hs3 : ∀ w, (Instr.slice 22 (.slice (some ⟨bx, ox, none⟩) (4 * k) cx) (some (.int .i64 ((q : Int) + 8))) none none).run Try.prog w = .ok (.slice (subA (some ⟨bx, ox, none⟩) cx (q + 8)) (4 * k - (q + 8)) (cx - (q + 8))) w := fun w => by
      rw [sub_l (P := Try.prog) Try.underlying22 size8 (some ⟨bx, ox, none⟩) (4 * k) cx (q + 8) (by omega) ((q : Int) + 8) (by omega) w]
    have hw4 : IntKind.i64.wrap ((q : Int) + 4) = (q : Int) + 4 := by rw [IntKind.wrap_i64]; omega
    have hw8 : IntKind.i64.wrap ((q : Int) + 8) = (q : Int) + 8 := by rw [IntKind.wrap_i64]; omega
    go_upto_region 6 with fail
    go_cut [7] from 29 (fun v wc => Ext v2 wc ∧ wc.ownsRow v2.heap.size 5 1 v (4 * k) ((List.range (4 * k)).map (bvs (swB p f0))))
    case first =>
      go_region_law (first
        | (refine step_append_vals v3.drew (by rfl) (.tmp 29) (.tmp 35) 22 (by rfl) v2.heap.size 5 (.int .u8 0) 1 Try.underlying22 infoByte (by rfl) vy (q) ((List.range q).map (bvs f0)) (by simp [Act.eval, Act.put]) HOY.out (some ⟨bx, ox + (q + 4), none⟩) (4) (cx - (q + 4)) (bvs fun i => f0 ((q + 4) + i)) (by simp [Act.eval, Act.put]) (HF1.out v3.drew HX3.out) (fun _ _ => rfl) (by omega) (by omega) HZ3.out ?_; intro va w6 hown6 hgrow6; have hx6 : Ext v2 w6 := HX3.out.grow hgrow6 (fun b hb => HGE.out b hb))
        | (refine step_append_vals w6 (by rfl) (.tmp 36) (.tmp 41) 22 (by rfl) v2.heap.size 5 (.int .u8 0) 1 Try.underlying22 infoByte (by rfl) va (q + 4) ((List.range q).map (bvs f0) ++ (List.range 4).map (bvs fun i => f0 ((q + 4) + i))) (by simp [Act.eval]) hown6 (some ⟨bx, ox + q, none⟩) (4) (cx - q) (bvs fun i => f0 (q + i)) (by simp [Act.eval]) (HF2.out w6 hx6) (fun _ _ => rfl) (by omega) (by omega) hx6.size ?_; intro vb w7 hown7 hgrow7; have hx7 : Ext v2 w7 := hx6.grow hgrow7 (fun b hb => (own_ge hown6 hb).1))
        | (refine step_append_vals w7 (by rfl) (.tmp 42) (.tmp 46) 22 (by rfl) v2.heap.size 5 (.int .u8 0) 1 Try.underlying22 infoByte (by rfl) vb (q + 4 + 4) ((List.range q).map (bvs f0) ++ (List.range 4).map (bvs fun i => f0 ((q + 4) + i)) ++ (List.range 4).map (bvs fun i => f0 (q + i))) (by simp [Act.eval]) hown7 (subA (some ⟨bx, ox, none⟩) cx (q + 8)) (4 * k - (q + 8)) (cx - (q + 8)) (bvs fun i => f0 ((q + 8) + i)) (by simp [Act.eval]) (HF3.out w7 hx7) (fun _ _ => rfl) (by omega) (by omega) hx7.size ?_; intro vc w8 hown8 hgrow8; have hx8 : Ext v2 w8 := hx7.grow hgrow8 (fun b hb => (own_ge hown7 hb).1)))
      all_goals
        have HN : Hid (w8.ownsRow v2.heap.size 5 1 vc (4 * k) ((List.range (4 * k)).map (bvs (swB p f0)))) := by
          rw [cat_map, cat_map, cat_map, show q + 4 + 4 + (4 * k - (q + 8)) = 4 * k by omega] at hown8
          have hq := HQ.out
          subst hq
          rw [show (bvs (swB p f0)) = bvs (catB (4 * p + 4 + 4) (catB (4 * p + 4) (catB (4 * p) f0 fun i => f0 (4 * p + 4 + i)) fun i => f0 (4 * p + i)) fun i => f0 (4 * p + 8 + i)) from funext fun i => by unfold bvs; rw [cat_sw]]
          exact hown8
        clear hown6 hgrow6 hown7 hgrow7 hown8 hgrow8 hx6 hx7
        go_wp2_with fail
        go_meet
        case rel => exact ⟨hx8, HN.out⟩
    case rest =>
      obtain ⟨hxc, hownc⟩ := hcut
      obtain ⟨ay, cy, rfl, hby, hcy⟩ := own_room hownc
      have HY : Hid (Byts wc ay (4 * k) (swB p f0)) := hby
      have HXC : Hid (Byts wc (some ⟨bx, ox, none⟩) (4 * k) f0) := HX1.out.ext hxc
      have X4 : Hid (Ext w wc) := hx1.trans hxc
      clear hownc hby hs1 hs2 hs3 hw4 hw8 HF1 HF2 HF3 HOY HGE HZ3 HX3 hxc HX1 HP hx1
      obtain ⟨S, hS⟩ : ∃ S : Nat → Int, mw (fun _ => 0) (wrdOf f0) k = S := ⟨_, rfl⟩
      obtain ⟨T, hT⟩ : ∃ T : Nat → Int, mw (fun _ => 0) (wrdOf (swB p f0)) k = T := ⟨_, rfl⟩
      have HA : Hid (T 0 = S 0) := by
        show T 0 = S 0
        rw [← hS, ← hT]
        exact (swap_A (by omega) (fun i h1 h2 => swB_o p f0 i h1 h2) (swB_p p f0) (swB_p1 p f0)).symm
      have HEQ : Hid (wrdOf f0 p = wrdOf f0 (p + 1) → T = S) := fun h => by
        rw [← hS, ← hT]
        exact mw_congr k fun i _ => by
          by_cases e : i = p
          · subst e; rw [swB_p, h]
          · by_cases e1 : i = p + 1
            · subst e1; rw [swB_p1, h]
            · exact swB_o p f0 i e e1
      have HNE : Hid (wrdOf f0 p ≠ wrdOf f0 (p + 1) → S 1 ≠ T 1) := fun h => by
        rw [← hS, ← hT]
        exact swap_B (by omega) (fun i h1 h2 => swB_o p f0 i h1 h2) (swB_p p f0) (swB_p1 p f0) (wrd_bd _ _) (wrd_bd _ _) h
      have HS : Hid (mw (fun _ => 0) (wrdOf f0) k = S) := hS
      have HT : Hid (mw (fun _ => 0) (wrdOf (swB p f0)) k = T) := hT
      clear hS hT
      go_wp2_with fail
      refine (Of_words _ k cx f0 _ hcx.1 hcx.2 HXC.out).mono ?_
      rintro e v4 ⟨rfl, hx4⟩
      rw [HS.out]
      have ROW8 : Hid ((v4.alloc (.cells #[.int .i64 (S 0), .int .i64 (S 1), .int .i64 (S 2), .int .i64 (S 3)] 27)).rowIs v4.heap.size 27 4 (ivs S)) := row4_alloc v4 27 (ivs S)
      have X5 : Hid (Ext wc (v4.alloc (.cells #[.int .i64 (S 0), .int .i64 (S 1), .int .i64 (S 2), .int .i64 (S 3)] 27))) := hx4.alloc _ _
      go_upto_region 8 with fail
      generalize v4.alloc (.cells #[.int .i64 (S 0), .int .i64 (S 1), .int .i64 (S 2), .int .i64 (S 3)] 27) = v5 at *
      generalize v4.heap.size = g8 at *
      clear hx4
      go_wp2_with fail
      refine (Of_words ay k cy (swB p f0) _ hcy.1 hcy.2 (HY.out.ext X5.out)).mono ?_
      rintro e v6 ⟨rfl, hx6⟩
      rw [HT.out]
      have ROW10 : Hid ((v6.alloc (.cells #[.int .i64 (T 0), .int .i64 (T 1), .int .i64 (T 2), .int .i64 (T 3)] 27)).rowIs v6.heap.size 27 4 (ivs T)) := row4_alloc v6 27 (ivs T)
      have X7 : Hid (Ext v5 (v6.alloc (.cells #[.int .i64 (T 0), .int .i64 (T 1), .int .i64 (T 2), .int .i64 (T 3)] 27))) := hx6.alloc _ _
      go_upto_region 9 with fail
      generalize v6.alloc (.cells #[.int .i64 (T 0), .int .i64 (T 1), .int .i64 (T 2), .int .i64 (T 3)] 27) = v7 at *
      generalize v6.heap.size = g10 at *
      clear hx6
      have HX7 : Hid (Byts v7 (some ⟨bx, ox, none⟩) (4 * k) f0) := HXC.out.ext (X5.out.trans X7.out)
      have HY7 : Hid (Byts v7 ay (4 * k) (swB p f0)) := HY.out.ext (X5.out.trans X7.out)
      have d0 : ∀ y : Gr v7, y.w'.cell? ⟨g8, 0, none⟩ = some (.int .i64 (S 0)) := fun y => (y.ext.rowIs (X7.out.rowIs ROW8.out)).cell (i := 0) (by omega)
      have d1 : ∀ y : Gr v7, y.w'.cell? ⟨g8, 1, none⟩ = some (.int .i64 (S 1)) := fun y => (y.ext.rowIs (X7.out.rowIs ROW8.out)).cell (i := 1) (by omega)
      have d2 : ∀ y : Gr v7, y.w'.cell? ⟨g8, 2, none⟩ = some (.int .i64 (S 2)) := fun y => (y.ext.rowIs (X7.out.rowIs ROW8.out)).cell (i := 2) (by omega)
      have d3 : ∀ y : Gr v7, y.w'.cell? ⟨g8, 3, none⟩ = some (.int .i64 (S 3)) := fun y => (y.ext.rowIs (X7.out.rowIs ROW8.out)).cell (i := 3) (by omega)
      have q0 : ∀ y : Gr v7, y.w'.cell? ⟨g10, 0, none⟩ = some (.int .i64 (S 0)) := fun y => ((y.ext.rowIs ROW10.out).cell (i := 0) (by omega)).trans (by unfold ivs; rw [HA.out])
      have q1 : ∀ y : Gr v7, y.w'.cell? ⟨g10, 1, none⟩ = some (.int .i64 (T 1)) := fun y => (y.ext.rowIs ROW10.out).cell (i := 1) (by omega)
      have q2 : ∀ y : Gr v7, y.w'.cell? ⟨g10, 2, none⟩ = some (.int .i64 (T 2)) := fun y => (y.ext.rowIs ROW10.out).cell (i := 2) (by omega)
      have q3 : ∀ y : Gr v7, y.w'.cell? ⟨g10, 3, none⟩ = some (.int .i64 (T 3)) := fun y => (y.ext.rowIs ROW10.out).cell (i := 3) (by omega)
      have HEND : Hid (∀ y : Gr v7, Ext w y.w') := fun y => X4.out.trans (X5.out.trans (X7.out.trans y.ext))
      clear ROW8 ROW10 HXC HY
      by_cases hw : wrdOf f0 p = wrdOf f0 (p + 1)
      · have hts := HEQ.out hw
        rw [hts] at q1 q2 q3
        have HSM : Hid (∀ i, i < 4 * k → f0 i = swB p f0 i) := fun i _ => swB_same hw i
        clear hts
        refine wp_region_grows 25 (by kernel_rfl) (by kernel_rfl) (fun hne => ?_)
        simp only [List.take_succ_cons, List.take_zero, List.drop_succ_cons, List.drop_zero]
        repeat (go_big_quiet_step (first | (go_at_call 6; exact Calls.grown (sure_any _)) | (go_at_call 9; exact Calls.grown (sameBytesK_any _ ay (4 * k) cx cy f0 (swB p f0) _ (by omega) (HX7.out.ext (Gr.ext _)) (HY7.out.ext (Gr.ext _)) HSM.out))))
        refine wpQuiet_nil ?_
        intro w9 hw9
        obtain ⟨y, rfl⟩ := hw9
        have he := HEND.out y
        clear d0 d1 d2 d3 q0 q1 q2 q3
        go_wp2_with fail
        go_ret
        exact ⟨by simp, he⟩
      · have hn1 := HNE.out hw
        have HSM : Hid (¬ ∀ i, i < 4 * k → f0 i = swB p f0 i) := swB_diff (by omega) hw
        clear hw
        refine wp_region_grows 25 (by kernel_rfl) (by kernel_rfl) (fun hne => ?_)
        simp only [List.take_succ_cons, List.take_zero, List.drop_succ_cons, List.drop_zero]
        repeat (go_big_quiet_step (first | (go_at_call 6; exact Calls.grown (sure_any _)) | (go_at_call 9; exact Calls.grown (sameBytesK_no _ ay (4 * k) cx cy f0 (swB p f0) _ (by omega) (HX7.out.ext (Gr.ext _)) (HY7.out.ext (Gr.ext _)) HSM.out))))
        refine wpQuiet_nil ?_
        intro w9 hw9
        obtain ⟨y, rfl⟩ := hw9
        have he := HEND.out y
        clear d0 d1 d2 d3 q0 q1 q2 q3
        go_wp2_with fail
        go_ret
        exact ⟨by simp, he⟩
end Go.Proofs.Ytlmnkakjmhgiaab.fletSwapped
