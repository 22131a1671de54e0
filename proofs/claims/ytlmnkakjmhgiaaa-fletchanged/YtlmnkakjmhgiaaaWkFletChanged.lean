/-
  A word that is changed is seen: at every two lists of bytes and every number; no condition.
-/
import Derived.Test.YtlmnkakjmhgiaaaRows
import Derived.WalkKit
import Derived.ProofKit
import Derived.OpenShut
import Derived.ChangeOld
import Derived.Below
import Derived.BigQuiet
import Derived.Deep.CutRange
import Derived.Deep.QuietTactic
import Derived.Deep.RegionLaw
import Derived.Test.YtlmnkakjmhgiaaaOpn
import Derived.Test.YtlmnkakjmhgiaaaChecked
import Derived.Test.YtlmnkakjmhgiaaaKeepFlet
import Derived.Test.YtlmnkakjmhgiaaaSameB
import Derived.Test.YtlmnkakjmhgiaaaOwnC
namespace Go.Proofs.Ytlmnkakjmhgiaaa.fletChanged
open Go.ChangeShapes Go.WideShapes Go.ChangeAt Go.RowKit Go.Deep E
set_option linter.unusedVariables false
theorem xorB8 (x y : E) : bits .xor .u8 (ev x) (ev y) = ev (ad x y) := u8_xor_nat x.val y.val x.lt y.lt
set_option maxRecDepth 100000 in
set_option maxHeartbeats 4000000 in
theorem walk (a0 : Option Addr) (n0 c0 : Nat) (f0 : Nat → E) (a1 : Int) (a2 : Option Addr) (n2 c2 : Nat) (f2 : Nat → E) (w : World) (h0 : Byts w a0 n0 f0) (b0 : n0 ≤ c0 ∧ c0 ≤ 9223372036854775807) (w1 : -9223372036854775808 ≤ a1 ∧ a1 ≤ 9223372036854775807) (h2 : Byts w a2 n2 f2) (b2 : n2 ≤ c2 ∧ c2 ≤ 9223372036854775807) :
    Calls Try.prog 8 #[.slice a0 n0 c0, .int .i64 a1, .slice a2 n2 c2] w fun e w' => e = .returned (.bool true) ∧ Ext w w' := by
  have HA : Hid (Byts w a0 n0 f0) := h0
  have HB : Hid (Byts w a2 n2 f2) := h2
  clear h0 h2
  have hwk := wk_le n0
  obtain ⟨b21, b22⟩ := b2
  go_enter Try.func8, Try.ntmps8
  go_wp2_with fail
  refine (Words_any a0 n0 c0 f0 _ b0.1 b0.2 HA.out).mono ?_
  rintro e v1 ⟨⟨vx, rfl, hox⟩, hx1⟩
  obtain ⟨k, hk⟩ : ∃ k, wk n0 = k := ⟨_, rfl⟩
  rw [hk] at hox hwk
  clear hk HA
  obtain ⟨ax, cx, rfl, hbx, hcx⟩ := own_room hox
  have HX1 : Hid (Byts v1 ax (4 * k) f0) := hbx
  clear hox hbx
  by_cases h0 : 4 * k = 0
  · have h0' : ((4 * k : Nat) : Int) = 0 := by omega
    obtain rfl : k = 0 := by omega
    go_wp2_with fail
    refine (sure_any _).mono ?_
    rintro e v2 ⟨rfl, hx2⟩
    go_wp2_with fail
    go_ret
    exact ⟨rfl, hx1.trans hx2⟩
  · have h0' : (((4 * k : Nat) : Int) == 0) = false := by rw [beq_eq_false_iff_ne]; omega
    have hdiv : ((4 * k : Nat) : Int) / 4 = (k : Int) := by omega
    obtain ⟨p, hp, hp2⟩ := picked_is a1 (k : Int) (by omega)
    have HP : Hid (a1 % (k : Int) = p) := hp
    clear hp
    go_upto_region 4 with fail
    go_wp2_with (first | (at_builtin; refine append_vals v1 rfl (.const (.slice none 0 0)) (.tmp 21) 29 rfl v1.heap.size 5 (.int .u8 0) 1 Try.underlying29 infoByte rfl (.slice none 0 0) 0 [] rfl (World.ownsRow_nil _ _ _ _) ax (4 * k) cx (bvs f0) rfl HX1.out (fun _ _ => rfl) (by omega) (by omega) (Nat.le_refl _) ?_) | fail)
    intro vy v2 hown2 hgrow2
    have hown2' : v2.ownsRow v1.heap.size 5 1 vy (4 * k) ((List.range (4 * k)).map (bvs f0)) := by
      have := hown2
      simpa using this
    have hx2 : Ext v1 v2 := (Ext.refl v1).grow hgrow2 fun _ hk => by cases hk
    obtain ⟨ay, cy, hvy, _, hcy⟩ := own_room hown2'
    obtain ⟨g, cy', hv', hg1, _, hrow, _⟩ := rowHas_of_own hown2' (by omega) (bvs f0) fun i hi => by simp [hi]
    rw [hvy] at hv'
    cases hv'
    subst hvy
    have HR2 : Hid (rowHas v2 g 5 (4 * k) (bvs f0)) := hrow
    have HX2 : Hid (Ext v1 v2) := hx2
    have HB1 : Hid (Byts v1 a2 n2 f2) := HB.out.ext hx1
    clear hown2 hown2' hgrow2 hrow hx2 HB
    go_wp2_with fail
    refine (Picked_bd a1 (k : Int) p _ (by omega) (by omega) w1 HP.out).mono ?_
    rintro e v3 ⟨rfl, rfl⟩
    obtain ⟨q, hq⟩ : ∃ q : Nat, q = 4 * p := ⟨_, rfl⟩
    have HQ : Hid (q = 4 * p) := hq
    have hq4 : (4 : Int) * (p : Int) = (q : Int) := by omega
    have hqk : q + 4 ≤ 4 * k := by omega
    have hk1 : 4 * k ≤ 400 := by omega
    clear hq
    go_wp2_with fail
    go_loopw [10] (fun i wr => ∃ j : Nat, j ≤ 4 ∧ j ≤ n2 ∧ i = .int .i64 j ∧ Wro (· = g) v3 wr ∧ rowHas wr g 5 (4 * k) (bvs (chB p f0 f2 j))) (fun i _ => 4 - (intOf i).toNat)
    case atStart => exact ⟨0, by omega, by omega, rfl, Wro.refl _ _, HR2.out.congr fun i _ => by unfold bvs chB; rw [if_neg (by omega)]⟩
    case round =>
      obtain ⟨j, hj4, hjn, rfl, hx, hr⟩ := hrel
      have HR : Hid (rowHas wr g 5 (4 * k) (bvs (chB p f0 f2 j))) := hr
      have XV : Hid (Ext v1 wr) := Wro.after HX2.out hx (fun i hi => by omega)
      by_cases hlt : j < 4 ∧ j < n2
      · obtain ⟨l1, l2⟩ := hlt
        have i1 : (j : Int) < 4 := by omega
        have i2 : (j : Int) < (n2 : Int) := by omega
        obtain ⟨r, hrq⟩ : ∃ r : Nat, r = q + j := ⟨_, rfl⟩
        have hcy' := hr.cell (i := r) (by omega)
        have hfy := hr.frozen r
        rw [show bvs (chB p f0 f2 j) r = .int .u8 (ev (f0 r)) by unfold bvs chB; rw [if_neg (by have := HQ.out; omega)]] at hcy'
        obtain ⟨bb, ob, rfl, hcb⟩ := HB1.out j l2
        have hcb' := XV.out.keeps hcb
        have hxor := xorB8 (f0 r) (f2 j)
        have hw1 : IntKind.i64.wrap ((q : Int) + (j : Int)) = (r : Int) := by rw [IntKind.wrap_i64]; omega
        have hl3 : (r : Int) < 4 * (k : Int) := by omega
        have HRQ : Hid (r = 4 * p + j) := by have := HQ.out; show r = 4 * p + j; omega
        clear hr hcb hrq
        go_wp2_with fail
        refine wp_region_still_tail 11 (by kernel_rfl) (by kernel_rfl) ?_
        simp only [List.take_succ_cons, List.take_zero, List.drop_succ_cons, List.drop_zero]
        repeat still_step
        refine wpStill_nil ?_
        go_wp2_with fail
        go_roundw
        case rel =>
          refine ⟨j + 1, by omega, by omega, by go_num, (hx.setCell (p := ⟨g, r, none⟩) rfl _).drew, ?_⟩
          have h9 := HR.out.set r (.int .u8 (ev (ad (f0 r) (f2 j))))
          refine (h9.congr fun i _ => ?_).ext (Ext.refl _).drew
          have e := HRQ.out
          subst e
          unfold bvs
          rw [← chB_put]
          split <;> rfl
        case measure => simp [intOf]; omega
      · obtain ⟨G, hG⟩ : ∃ G : Nat → E, chB p f0 f2 j = G := ⟨_, rfl⟩
        obtain ⟨bx, ox, rfl, hcell⟩ := HX1.out.at (by omega)
        clear hcell
        have hend1 : ((j : Int) < 4 → ¬ (j : Int) < (n2 : Int)) := by omega
        have HY : Hid (Byts wr (some ⟨g, 0, none⟩) (4 * k) G) := Byts.mk fun i hi => by
          rw [Nat.zero_add, ← hG]
          exact hr.cell hi
        have HXX : Hid (Byts wr (some ⟨bx, ox, none⟩) (4 * k) f0) := HX1.out.ext XV.out
        have X4 : Hid (Ext w wr) := hx1.trans XV.out
        have hpk : p < k := by omega
        obtain ⟨S, hS⟩ : ∃ S : Nat → Int, mw (fun _ => 0) (wrdOf f0) k = S := ⟨_, rfl⟩
        obtain ⟨T, hT⟩ : ∃ T : Nat → Int, mw (fun _ => 0) (wrdOf G) k = T := ⟨_, rfl⟩
        have HEQ : Hid (wrdOf f0 p = wrdOf G p → T = S ∧ ∀ i, i < 4 * k → f0 i = G i) := fun h => by
          rw [← hG] at h hT ⊢
          refine ⟨?_, fun i _ => chB_same hj4 h i⟩
          rw [← hS, ← hT]
          exact mw_congr k fun i _ => by
            by_cases e : i = p
            · subst e; exact h.symm
            · exact chB_o p f0 f2 j i hj4 e
        have HNE : Hid (wrdOf f0 p ≠ wrdOf G p → S 0 ≠ T 0 ∧ ¬ ∀ i, i < 4 * k → f0 i = G i) := fun h => by
          rw [← hG] at h hT ⊢
          refine ⟨?_, chB_diff hpk h⟩
          rw [← hS, ← hT]
          exact seen_A hpk (fun i e => chB_o p f0 f2 j i hj4 e) (wrd_bd _ _) (wrd_bd _ _) h
        have HS : Hid (mw (fun _ => 0) (wrdOf f0) k = S) := hS
        have HT : Hid (mw (fun _ => 0) (wrdOf G) k = T) := hT
        clear hS hT hr HR hG HX1 HB1 XV HR2 HX2 hx hx1
        by_cases hj : (j : Int) < 4
        · have hj2 := hend1 hj
          clear hlt hend1
          go_wp2_with fail
          refine (Of_words _ k cx f0 _ hcx.1 hcx.2 HXX.out).mono ?_
          rintro e v4 ⟨rfl, hx4⟩
          rw [HS.out]
          have ROW8 : Hid ((v4.alloc (.cells #[.int .i64 (S 0), .int .i64 (S 1), .int .i64 (S 2), .int .i64 (S 3)] 31)).rowIs v4.heap.size 31 4 (ivs S)) := row4_alloc v4 31 (ivs S)
          have X5 : Hid (Ext wr (v4.alloc (.cells #[.int .i64 (S 0), .int .i64 (S 1), .int .i64 (S 2), .int .i64 (S 3)] 31))) := hx4.alloc _ _
          go_upto_region 11 with fail
          generalize v4.alloc (.cells #[.int .i64 (S 0), .int .i64 (S 1), .int .i64 (S 2), .int .i64 (S 3)] 31) = v5 at *
          generalize v4.heap.size = g8 at *
          clear hx4
          go_wp2_with fail
          refine (Of_words _ k cy G _ hcy.1 hcy.2 (HY.out.ext X5.out)).mono ?_
          rintro e v6 ⟨rfl, hx6⟩
          rw [HT.out]
          have ROW10 : Hid ((v6.alloc (.cells #[.int .i64 (T 0), .int .i64 (T 1), .int .i64 (T 2), .int .i64 (T 3)] 31)).rowIs v6.heap.size 31 4 (ivs T)) := row4_alloc v6 31 (ivs T)
          have X7 : Hid (Ext v5 (v6.alloc (.cells #[.int .i64 (T 0), .int .i64 (T 1), .int .i64 (T 2), .int .i64 (T 3)] 31))) := hx6.alloc _ _
          go_upto_region 12 with fail
          generalize v6.alloc (.cells #[.int .i64 (T 0), .int .i64 (T 1), .int .i64 (T 2), .int .i64 (T 3)] 31) = v7 at *
          generalize v6.heap.size = g10 at *
          clear hx6
          have HX7 : Hid (Byts v7 (some ⟨bx, ox, none⟩) (4 * k) f0) := HXX.out.ext (X5.out.trans X7.out)
          have HY7 : Hid (Byts v7 (some ⟨g, 0, none⟩) (4 * k) G) := HY.out.ext (X5.out.trans X7.out)
          have d0 : ∀ y : Gr v7, y.w'.cell? ⟨g8, 0, none⟩ = some (.int .i64 (S 0)) := fun y => (y.ext.rowIs (X7.out.rowIs ROW8.out)).cell (i := 0) (by omega)
          have d1 : ∀ y : Gr v7, y.w'.cell? ⟨g8, 1, none⟩ = some (.int .i64 (S 1)) := fun y => (y.ext.rowIs (X7.out.rowIs ROW8.out)).cell (i := 1) (by omega)
          have d2 : ∀ y : Gr v7, y.w'.cell? ⟨g8, 2, none⟩ = some (.int .i64 (S 2)) := fun y => (y.ext.rowIs (X7.out.rowIs ROW8.out)).cell (i := 2) (by omega)
          have d3 : ∀ y : Gr v7, y.w'.cell? ⟨g8, 3, none⟩ = some (.int .i64 (S 3)) := fun y => (y.ext.rowIs (X7.out.rowIs ROW8.out)).cell (i := 3) (by omega)
          have q0 : ∀ y : Gr v7, y.w'.cell? ⟨g10, 0, none⟩ = some (.int .i64 (T 0)) := fun y => (y.ext.rowIs ROW10.out).cell (i := 0) (by omega)
          have q1 : ∀ y : Gr v7, y.w'.cell? ⟨g10, 1, none⟩ = some (.int .i64 (T 1)) := fun y => (y.ext.rowIs ROW10.out).cell (i := 1) (by omega)
          have q2 : ∀ y : Gr v7, y.w'.cell? ⟨g10, 2, none⟩ = some (.int .i64 (T 2)) := fun y => (y.ext.rowIs ROW10.out).cell (i := 2) (by omega)
          have q3 : ∀ y : Gr v7, y.w'.cell? ⟨g10, 3, none⟩ = some (.int .i64 (T 3)) := fun y => (y.ext.rowIs ROW10.out).cell (i := 3) (by omega)
          have HEND : Hid (∀ y : Gr v7, Ext w y.w') := fun y => X4.out.trans (X5.out.trans (X7.out.trans y.ext))
          clear ROW8 ROW10 HXX HY
          by_cases hw : wrdOf f0 p = wrdOf G p
          · have hts := (HEQ.out hw).1
            have HSM : Hid (∀ i, i < 4 * k → f0 i = G i) := (HEQ.out hw).2
            rw [hts] at q0 q1 q2 q3
            clear hts hw
            refine wp_region_grows 18 (by kernel_rfl) (by kernel_rfl) (fun hne => ?_)
            simp only [List.take_succ_cons, List.take_zero, List.drop_succ_cons, List.drop_zero]
            repeat (go_big_quiet_step (first | (go_at_call 18; exact Calls.grown (sure_any _)) | (go_at_call 20; exact Calls.grown (sameBytesK_any _ _ (4 * k) cx cy f0 G _ (by omega) (HX7.out.ext (Gr.ext _)) (HY7.out.ext (Gr.ext _)) HSM.out))))
            refine wpQuiet_nil ?_
            intro w9 hw9
            obtain ⟨y, rfl⟩ := hw9
            have he := HEND.out y
            clear d0 d1 d2 d3 q0 q1 q2 q3
            go_wp2_with fail
            go_ret
            exact ⟨by simp, he⟩
          · have hn1 := (HNE.out hw).1
            have HSM : Hid (¬ ∀ i, i < 4 * k → f0 i = G i) := (HNE.out hw).2
            clear hw
            refine wp_region_grows 18 (by kernel_rfl) (by kernel_rfl) (fun hne => ?_)
            simp only [List.take_succ_cons, List.take_zero, List.drop_succ_cons, List.drop_zero]
            repeat (go_big_quiet_step (first | (go_at_call 18; exact Calls.grown (sure_any _)) | (go_at_call 20; exact Calls.grown (sameBytesK_no _ _ (4 * k) cx cy f0 G _ (by omega) (HX7.out.ext (Gr.ext _)) (HY7.out.ext (Gr.ext _)) HSM.out))))
            refine wpQuiet_nil ?_
            intro w9 hw9
            obtain ⟨y, rfl⟩ := hw9
            have he := HEND.out y
            clear d0 d1 d2 d3 q0 q1 q2 q3
            go_wp2_with fail
            go_ret
            exact ⟨by simp, he⟩
        · clear hlt hend1
          go_wp2_with fail
          refine (Of_words _ k cx f0 _ hcx.1 hcx.2 HXX.out).mono ?_
          rintro e v4 ⟨rfl, hx4⟩
          rw [HS.out]
          have ROW8 : Hid ((v4.alloc (.cells #[.int .i64 (S 0), .int .i64 (S 1), .int .i64 (S 2), .int .i64 (S 3)] 31)).rowIs v4.heap.size 31 4 (ivs S)) := row4_alloc v4 31 (ivs S)
          have X5 : Hid (Ext wr (v4.alloc (.cells #[.int .i64 (S 0), .int .i64 (S 1), .int .i64 (S 2), .int .i64 (S 3)] 31))) := hx4.alloc _ _
          go_upto_region 11 with fail
          generalize v4.alloc (.cells #[.int .i64 (S 0), .int .i64 (S 1), .int .i64 (S 2), .int .i64 (S 3)] 31) = v5 at *
          generalize v4.heap.size = g8 at *
          clear hx4
          go_wp2_with fail
          refine (Of_words _ k cy G _ hcy.1 hcy.2 (HY.out.ext X5.out)).mono ?_
          rintro e v6 ⟨rfl, hx6⟩
          rw [HT.out]
          have ROW10 : Hid ((v6.alloc (.cells #[.int .i64 (T 0), .int .i64 (T 1), .int .i64 (T 2), .int .i64 (T 3)] 31)).rowIs v6.heap.size 31 4 (ivs T)) := row4_alloc v6 31 (ivs T)
          have X7 : Hid (Ext v5 (v6.alloc (.cells #[.int .i64 (T 0), .int .i64 (T 1), .int .i64 (T 2), .int .i64 (T 3)] 31))) := hx6.alloc _ _
          go_upto_region 12 with fail
          generalize v6.alloc (.cells #[.int .i64 (T 0), .int .i64 (T 1), .int .i64 (T 2), .int .i64 (T 3)] 31) = v7 at *
          generalize v6.heap.size = g10 at *
          clear hx6
          have HX7 : Hid (Byts v7 (some ⟨bx, ox, none⟩) (4 * k) f0) := HXX.out.ext (X5.out.trans X7.out)
          have HY7 : Hid (Byts v7 (some ⟨g, 0, none⟩) (4 * k) G) := HY.out.ext (X5.out.trans X7.out)
          have d0 : ∀ y : Gr v7, y.w'.cell? ⟨g8, 0, none⟩ = some (.int .i64 (S 0)) := fun y => (y.ext.rowIs (X7.out.rowIs ROW8.out)).cell (i := 0) (by omega)
          have d1 : ∀ y : Gr v7, y.w'.cell? ⟨g8, 1, none⟩ = some (.int .i64 (S 1)) := fun y => (y.ext.rowIs (X7.out.rowIs ROW8.out)).cell (i := 1) (by omega)
          have d2 : ∀ y : Gr v7, y.w'.cell? ⟨g8, 2, none⟩ = some (.int .i64 (S 2)) := fun y => (y.ext.rowIs (X7.out.rowIs ROW8.out)).cell (i := 2) (by omega)
          have d3 : ∀ y : Gr v7, y.w'.cell? ⟨g8, 3, none⟩ = some (.int .i64 (S 3)) := fun y => (y.ext.rowIs (X7.out.rowIs ROW8.out)).cell (i := 3) (by omega)
          have q0 : ∀ y : Gr v7, y.w'.cell? ⟨g10, 0, none⟩ = some (.int .i64 (T 0)) := fun y => (y.ext.rowIs ROW10.out).cell (i := 0) (by omega)
          have q1 : ∀ y : Gr v7, y.w'.cell? ⟨g10, 1, none⟩ = some (.int .i64 (T 1)) := fun y => (y.ext.rowIs ROW10.out).cell (i := 1) (by omega)
          have q2 : ∀ y : Gr v7, y.w'.cell? ⟨g10, 2, none⟩ = some (.int .i64 (T 2)) := fun y => (y.ext.rowIs ROW10.out).cell (i := 2) (by omega)
          have q3 : ∀ y : Gr v7, y.w'.cell? ⟨g10, 3, none⟩ = some (.int .i64 (T 3)) := fun y => (y.ext.rowIs ROW10.out).cell (i := 3) (by omega)
          have HEND : Hid (∀ y : Gr v7, Ext w y.w') := fun y => X4.out.trans (X5.out.trans (X7.out.trans y.ext))
          clear ROW8 ROW10 HXX HY
          by_cases hw : wrdOf f0 p = wrdOf G p
          · have hts := (HEQ.out hw).1
            have HSM : Hid (∀ i, i < 4 * k → f0 i = G i) := (HEQ.out hw).2
            rw [hts] at q0 q1 q2 q3
            clear hts hw
            refine wp_region_grows 18 (by kernel_rfl) (by kernel_rfl) (fun hne => ?_)
            simp only [List.take_succ_cons, List.take_zero, List.drop_succ_cons, List.drop_zero]
            repeat (go_big_quiet_step (first | (go_at_call 18; exact Calls.grown (sure_any _)) | (go_at_call 20; exact Calls.grown (sameBytesK_any _ _ (4 * k) cx cy f0 G _ (by omega) (HX7.out.ext (Gr.ext _)) (HY7.out.ext (Gr.ext _)) HSM.out))))
            refine wpQuiet_nil ?_
            intro w9 hw9
            obtain ⟨y, rfl⟩ := hw9
            have he := HEND.out y
            clear d0 d1 d2 d3 q0 q1 q2 q3
            go_wp2_with fail
            go_ret
            exact ⟨by simp, he⟩
          · have hn1 := (HNE.out hw).1
            have HSM : Hid (¬ ∀ i, i < 4 * k → f0 i = G i) := (HNE.out hw).2
            clear hw
            refine wp_region_grows 18 (by kernel_rfl) (by kernel_rfl) (fun hne => ?_)
            simp only [List.take_succ_cons, List.take_zero, List.drop_succ_cons, List.drop_zero]
            repeat (go_big_quiet_step (first | (go_at_call 18; exact Calls.grown (sure_any _)) | (go_at_call 20; exact Calls.grown (sameBytesK_no _ _ (4 * k) cx cy f0 G _ (by omega) (HX7.out.ext (Gr.ext _)) (HY7.out.ext (Gr.ext _)) HSM.out))))
            refine wpQuiet_nil ?_
            intro w9 hw9
            obtain ⟨y, rfl⟩ := hw9
            have he := HEND.out y
            clear d0 d1 d2 d3 q0 q1 q2 q3
            go_wp2_with fail
            go_ret
            exact ⟨by simp, he⟩
end Go.Proofs.Ytlmnkakjmhgiaaa.fletChanged
