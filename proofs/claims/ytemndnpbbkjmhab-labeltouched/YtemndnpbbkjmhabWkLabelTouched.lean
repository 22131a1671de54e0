/-
  A word of a sector that is changed is seen, and one of its seal: at whatever numbers a label is made of, every place and every list of bytes; no condition.
-/
import Derived.Test.YtemndnpbbkjmhabRows
import Derived.WalkKit
import Derived.ProofKit
import Derived.OpenShut
import Derived.ChangeOld
import Derived.Below
import Derived.BigQuiet
import Derived.Deep.CutRange
import Derived.Deep.QuietTactic
import Derived.Deep.RegionLaw
import Derived.Test.YtemndnpbbkjmhabOpn
import Derived.Test.YtemndnpbbkjmhabChecked
import Derived.Test.YtemndnpbbkjmhabFlat
import Derived.Test.YtemndnpbbkjmhabLabOf
import Derived.Test.YtemndnpbbkjmhabLabDec2
import Derived.Test.YtemndnpbbkjmhabLabTch
import Derived.Test.YtemndnpbbkjmhabKeepFlet
import Derived.Test.YtemndnpbbkjmhabSameB
import Derived.Test.YtemndnpbbkjmhabOwnC
namespace Go.Proofs.Ytemndnpbbkjmhab.labelTouched
open Go.ChangeShapes Go.WideShapes Go.ChangeAt Go.RowKit Go.Deep E
set_option linter.unusedVariables false
theorem xorB8 (x y : E) : bits .xor .u8 (ev x) (ev y) = ev (ad x y) := u8_xor_nat x.val y.val x.lt y.lt
theorem Encode_m (m : Nat) (hm : m = 128) (x : Nat → Int) (w : World) (h : mayL x = true) : Calls Try.prog 15 #[.agg #[.int .i64 (x 0), .int .i64 (x 1), .int .i64 (x 2), .int .i64 (x 3), .int .i64 (x 4), .int .i64 (x 5), .int .i64 (x 6), .int .i64 (x 7), .int .i64 (x 8), .int .i64 (x 9), .int .i64 (x 10), .int .i64 (x 11), .int .i64 (x 12)]] w fun e w' => (∃ g, w.heap.size ≤ g ∧ e = .returned (.tuple #[.slice (some ⟨g, 0, none⟩) m m, .int .i64 0]) ∧ w'.rowIs g 5 m (bvs (sec x))) ∧ Ext w w' := by
  subst hm
  exact Encode_t x w h
set_option maxRecDepth 100000 in
set_option maxHeartbeats 4000000 in
theorem walk (s0 : Nat → Int) (a1 : Int) (a2 : Option Addr) (n2 c2 : Nat) (f2 : Nat → E) (w : World) (b0 : ∀ i, i < 12 → I64 (s0 i)) (w1 : -9223372036854775808 ≤ a1 ∧ a1 ≤ 9223372036854775807) (h2 : Byts w a2 n2 f2) (b2 : n2 ≤ c2 ∧ c2 ≤ 9223372036854775807) :
    Calls Try.prog 7 #[.agg #[.int .i64 (s0 0), .int .i64 (s0 1), .int .i64 (s0 2), .int .i64 (s0 3), .int .i64 (s0 4), .int .i64 (s0 5), .int .i64 (s0 6), .int .i64 (s0 7), .int .i64 (s0 8), .int .i64 (s0 9), .int .i64 (s0 10), .int .i64 (s0 11)], .int .i64 a1, .slice a2 n2 c2] w fun e w' => e = .returned (.bool true) ∧ Ext w w' := by
  have HB : Hid (Byts w a2 n2 f2) := h2
  clear h2
  obtain ⟨b21, b22⟩ := b2
  obtain ⟨V, hV⟩ : ∃ V, lof s0 = V := ⟨_, rfl⟩
  have HM : Hid (mayL V = true) := by rw [← hV]; exact lof_may s0
  have HS : Hid (∀ k, 9 ≤ k → k < 13 → -9223372036854775808 ≤ V k ∧ V k ≤ 9223372036854775807) := fun k h9 hk => by
    rw [← hV]
    obtain ⟨j, rfl⟩ : ∃ j, k = j + 9 := ⟨k - 9, by omega⟩
    exact b0 (8 + j) (by omega)
  have HLO : Hid (∀ v, Calls Try.prog 14 #[.agg #[.int .i64 (s0 0), .int .i64 (s0 1), .int .i64 (s0 2), .int .i64 (s0 3), .int .i64 (s0 4), .int .i64 (s0 5), .int .i64 (s0 6), .int .i64 (s0 7), .int .i64 (s0 8), .int .i64 (s0 9), .int .i64 (s0 10), .int .i64 (s0 11)]] v fun e w' => e = .returned (.agg #[.int .i64 (V 0), .int .i64 (V 1), .int .i64 (V 2), .int .i64 (V 3), .int .i64 (V 4), .int .i64 (V 5), .int .i64 (V 6), .int .i64 (V 7), .int .i64 (V 8), .int .i64 (V 9), .int .i64 (V 10), .int .i64 (V 11), .int .i64 (V 12)]) ∧ Ext v w') := fun v => by
    rw [← hV]
    exact LabelOf_any s0 (fun i hi => b0 i hi) v
  clear hV b0
  obtain ⟨m, hm⟩ : ∃ m : Nat, m = 128 := ⟨128, rfl⟩
  have HQ : Hid (m = 128) := hm
  have hml : m ≤ 128 ∧ 128 ≤ m := by omega
  have hmq : ((m : Int) != 128) = false := by rw [bne_eq_false_iff_eq]; omega
  clear hm
  obtain ⟨p, hp, hp2⟩ := picked_is a1 32 (by omega)
  have HP : Hid (a1 % 32 = p) := hp
  clear hp
  go_enter Try.func7, Try.ntmps7
  go_wp2_with fail
  refine (HLO.out _).mono ?_
  rintro e u1 ⟨rfl, hx1⟩
  have X1 : Hid (Ext w u1) := ((Ext.refl _).alloc _ _).trans hx1
  clear hx1 HLO
  go_wp2_with fail
  refine (Encode_m m HQ.out V _ HM.out).mono ?_
  rintro e v1 ⟨⟨g0, hg0, rfl, hr0⟩, hx3⟩
  have X3 : Hid (Ext w v1) := X1.out.trans hx3
  have HX1 : Hid (Byts v1 (some ⟨g0, 0, none⟩) m (sec V)) := Byts.row hr0 (Nat.le_refl _)
  have hg0l := hr0.lt
  clear hx3 hr0 hg0 X1
  go_upto_region 4 with fail
  generalize hW : sec V = W at *
  have HW : Hid (sec V = W) := hW
  clear hW
  go_wp2_with (first | (at_builtin; refine append_vals v1 rfl (.const (.slice none 0 0)) (.tmp 27) 22 rfl v1.heap.size 5 (.int .u8 0) 1 Try.underlying22 infoByte rfl (.slice none 0 0) 0 [] rfl (World.ownsRow_nil _ _ _ _) (some ⟨g0, 0, none⟩) m m (bvs W) rfl HX1.out (fun _ _ => rfl) (by omega) (by omega) (Nat.le_refl _) ?_) | fail)
  intro vy v2 hown2 hgrow2
  have hown2' : v2.ownsRow v1.heap.size 5 1 vy m ((List.range m).map (bvs W)) := by
    have := hown2
    simpa using this
  have hx2 : Ext v1 v2 := (Ext.refl v1).grow hgrow2 fun _ hk => by cases hk
  obtain ⟨ay, cy, hvy, _, hcy⟩ := own_room hown2'
  obtain ⟨g, cy', hv', hg1, _, hrow, _⟩ := rowHas_of_own hown2' (by omega) (bvs W) fun i hi => by simp [hi]
  rw [hvy] at hv'
  cases hv'
  subst hvy
  have HR2 : Hid (rowHas v2 g 5 m (bvs W)) := hrow
  have HX2 : Hid (Ext v1 v2) := hx2
  have HB1 : Hid (Byts v1 a2 n2 f2) := HB.out.ext X3.out
  clear hown2 hown2' hgrow2 hrow hx2 HB
  go_wp2_with fail
  refine (Picked_bd a1 32 p _ (by omega) (by omega) w1 HP.out).mono ?_
  rintro e v3 ⟨rfl, rfl⟩
  obtain ⟨q, hq⟩ : ∃ q : Nat, q = 4 * p := ⟨_, rfl⟩
  have HQ4 : Hid (q = 4 * p) := hq
  have hq4 : (4 : Int) * (p : Int) = (q : Int) := by omega
  have hqk : q + 4 ≤ m := by omega
  clear hq
  go_wp2_with fail
  go_loopw [11] (fun i wr => ∃ j : Nat, j ≤ 4 ∧ j ≤ n2 ∧ i = .int .i64 j ∧ Wro (· = g) v3 wr ∧ rowHas wr g 5 m (bvs (chB p W f2 j))) (fun i _ => 4 - (intOf i).toNat)
  case atStart => exact ⟨0, by omega, by omega, rfl, Wro.refl _ _, HR2.out.congr fun i _ => by unfold bvs chB; rw [if_neg (by omega)]⟩
  case round =>
    obtain ⟨j, hj4, hjn, rfl, hx, hr⟩ := hrel
    have HR : Hid (rowHas wr g 5 m (bvs (chB p W f2 j))) := hr
    have XV : Hid (Ext v1 wr) := Wro.after HX2.out hx (fun i hi => by omega)
    by_cases hlt : j < 4 ∧ j < n2
    · obtain ⟨l1, l2⟩ := hlt
      have i1 : (j : Int) < 4 := by omega
      have i2 : (j : Int) < (n2 : Int) := by omega
      obtain ⟨r, hrq⟩ : ∃ r : Nat, r = q + j := ⟨_, rfl⟩
      have hcy' := hr.cell (i := r) (by omega)
      have hfy := hr.frozen r
      rw [show bvs (chB p W f2 j) r = .int .u8 (ev (W r)) by unfold bvs chB; rw [if_neg (by have := HQ4.out; omega)]] at hcy'
      obtain ⟨bb, ob, rfl, hcb⟩ := HB1.out j l2
      have hcb' := XV.out.keeps hcb
      have hxor := xorB8 (W r) (f2 j)
      have hw1 : IntKind.i64.wrap ((q : Int) + (j : Int)) = (r : Int) := by rw [IntKind.wrap_i64]; omega
      have hl3 : (r : Int) < (m : Int) := by omega
      have HRQ : Hid (r = 4 * p + j) := by have := HQ4.out; show r = 4 * p + j; omega
      clear hr hcb hrq
      go_wp2_with fail
      refine wp_region_still_tail 11 (by kernel_rfl) (by kernel_rfl) ?_
      simp only [List.take_succ_cons, List.take_zero, List.drop_succ_cons, List.drop_zero]
      repeat still_step
      refine wpStill_nil ?_
      go_wp2_with fail
      go_roundw
      case rel =>
        refine ⟨j + 1, by omega, by omega, by go_num, (hx.setCell (p := ⟨g, r, none⟩) rfl _).drew, ?_⟩
        have h9 := HR.out.set r (.int .u8 (ev (ad (W r) (f2 j))))
        refine (h9.congr fun i _ => ?_).ext (Ext.refl _).drew
        have e := HRQ.out
        subst e
        unfold bvs
        rw [← chB_put]
        split <;> rfl
      case measure => simp [intOf]; omega
    · obtain ⟨G, hG⟩ : ∃ G : Nat → E, chB p W f2 j = G := ⟨_, rfl⟩
      have hend1 : ((j : Int) < 4 → ¬ (j : Int) < (n2 : Int)) := by omega
      have HY : Hid (Byts wr (some ⟨g, 0, none⟩) m G) := Byts.mk fun i hi => by
        rw [Nat.zero_add, ← hG]
        exact hr.cell hi
      have HXX : Hid (Byts wr (some ⟨g0, 0, none⟩) m W) := HX1.out.ext XV.out
      have X4 : Hid (Ext w wr) := X3.out.trans XV.out
      have hp32 : p < 32 := by omega
      have HOT : Hid (∀ q, q ≠ p → wrdOf G q = wrdOf W q) := fun q hq => by rw [← hG]; exact chB_o p W f2 j q hj4 hq
      have HSAME : Hid (wrdOf W p = wrdOf G p → ∀ i, W i = G i) := fun h i => by
        rw [← hG] at h ⊢
        exact chB_same hj4 h i
      have HDIFF : Hid (wrdOf W p ≠ wrdOf G p → ¬ ∀ i, i < m → W i = G i) := fun h hall => h (wrd_shift fun r hr => hall (4 * p + r) (by have := HQ.out; omega)) |>.elim
      have HDEC0 : Hid (wrdOf W p = wrdOf G p → decE m G = 0) := fun h => by
        have hs := HSAME.out h
        rw [HQ.out]
        exact (decE_sec (fun i _ => by rw [← hs i, ← HW.out]) HM.out HS.out).1
      have HDEC1 : Hid (wrdOf W p ≠ wrdOf G p → decE m G = 11 ∧ ∀ k, decV m G k = 0) := fun h => by
        rw [HQ.out]
        exact dec_touched hp32 HOT.out h (by rw [← HW.out]; exact sealB_sec)
      clear hr HR hG HX1 HB1 XV HR2 HX2 hx X3
      by_cases hj : (j : Int) < 4
      · have hj2 := hend1 hj
        clear hlt hend1
        go_wp2_with fail
        refine (Decode_any (some ⟨g, 0, none⟩) m cy G _ hcy HY.out).mono ?_
        rintro e v4 ⟨rfl, hx4⟩
        by_cases hw : wrdOf W p = wrdOf G p
        · rw [HDEC0.out hw]
          generalize decV m G = U
          have X5 : Hid (Ext wr (v4.alloc (.cells #[.int .i64 (U 0), .int .i64 (U 1), .int .i64 (U 2), .int .i64 (U 3), .int .i64 (U 4), .int .i64 (U 5), .int .i64 (U 6), .int .i64 (U 7), .int .i64 (U 8), .int .i64 (U 9), .int .i64 (U 10), .int .i64 (U 11), .int .i64 (U 12)] 28))) := hx4.alloc _ _
          go_upto_region 11 with fail
          generalize v4.alloc (.cells #[.int .i64 (U 0), .int .i64 (U 1), .int .i64 (U 2), .int .i64 (U 3), .int .i64 (U 4), .int .i64 (U 5), .int .i64 (U 6), .int .i64 (U 7), .int .i64 (U 8), .int .i64 (U 9), .int .i64 (U 10), .int .i64 (U 11), .int .i64 (U 12)] 28) = v5 at *
          generalize v4.heap.size = g8 at *
          clear hx4
          go_wp2_with fail
          refine (sameBytesK_any (some ⟨g0, 0, none⟩) (some ⟨g, 0, none⟩) m m cy W G _ (by omega) (HXX.out.ext X5.out) (HY.out.ext X5.out) fun i _ => HSAME.out hw i).mono ?_
          rintro e v6 ⟨rfl, hx6⟩
          have X6 : Hid (Ext w v6) := X4.out.trans (X5.out.trans hx6)
          clear hx6
          go_wp2_with fail
          go_ret
          exact ⟨rfl, X6.out⟩
        · have hd := (HDEC1.out hw).2
          rw [(HDEC1.out hw).1, hd, hd, hd, hd, hd, hd, hd, hd, hd, hd, hd, hd, hd]
          clear hd
          have X5 : Hid (Ext wr (v4.alloc (.cells #[.int .i64 ((fun _ => (0 : Int)) 0), .int .i64 ((fun _ => (0 : Int)) 1), .int .i64 ((fun _ => (0 : Int)) 2), .int .i64 ((fun _ => (0 : Int)) 3), .int .i64 ((fun _ => (0 : Int)) 4), .int .i64 ((fun _ => (0 : Int)) 5), .int .i64 ((fun _ => (0 : Int)) 6), .int .i64 ((fun _ => (0 : Int)) 7), .int .i64 ((fun _ => (0 : Int)) 8), .int .i64 ((fun _ => (0 : Int)) 9), .int .i64 ((fun _ => (0 : Int)) 10), .int .i64 ((fun _ => (0 : Int)) 11), .int .i64 ((fun _ => (0 : Int)) 12)] 28))) := hx4.alloc _ _
          have R5 : Hid ((v4.alloc (.cells #[.int .i64 ((fun _ => (0 : Int)) 0), .int .i64 ((fun _ => (0 : Int)) 1), .int .i64 ((fun _ => (0 : Int)) 2), .int .i64 ((fun _ => (0 : Int)) 3), .int .i64 ((fun _ => (0 : Int)) 4), .int .i64 ((fun _ => (0 : Int)) 5), .int .i64 ((fun _ => (0 : Int)) 6), .int .i64 ((fun _ => (0 : Int)) 7), .int .i64 ((fun _ => (0 : Int)) 8), .int .i64 ((fun _ => (0 : Int)) 9), .int .i64 ((fun _ => (0 : Int)) 10), .int .i64 ((fun _ => (0 : Int)) 11), .int .i64 ((fun _ => (0 : Int)) 12)] 28)).rowIs v4.heap.size 28 13 (ivs fun _ => 0)) := row13_alloc v4 28 (ivs fun _ => 0)
          go_upto_region 11 with fail
          generalize v4.alloc (.cells #[.int .i64 ((fun _ => (0 : Int)) 0), .int .i64 ((fun _ => (0 : Int)) 1), .int .i64 ((fun _ => (0 : Int)) 2), .int .i64 ((fun _ => (0 : Int)) 3), .int .i64 ((fun _ => (0 : Int)) 4), .int .i64 ((fun _ => (0 : Int)) 5), .int .i64 ((fun _ => (0 : Int)) 6), .int .i64 ((fun _ => (0 : Int)) 7), .int .i64 ((fun _ => (0 : Int)) 8), .int .i64 ((fun _ => (0 : Int)) 9), .int .i64 ((fun _ => (0 : Int)) 10), .int .i64 ((fun _ => (0 : Int)) 11), .int .i64 ((fun _ => (0 : Int)) 12)] 28) = v5 at *
          generalize v4.heap.size = g8 at *
          clear hx4
          go_wp2_with fail
          refine (sameBytesK_no (some ⟨g0, 0, none⟩) (some ⟨g, 0, none⟩) m m cy W G _ (by omega) (HXX.out.ext X5.out) (HY.out.ext X5.out) (HDIFF.out hw)).mono ?_
          rintro e v6 ⟨rfl, hx6⟩
          have X6 : Hid (Ext w v6) := X4.out.trans (X5.out.trans hx6)
          have c0 := (hx6.rowIs R5.out).cell (i := 0) (by omega)
          have c1 := (hx6.rowIs R5.out).cell (i := 1) (by omega)
          have c2 := (hx6.rowIs R5.out).cell (i := 2) (by omega)
          have c3 := (hx6.rowIs R5.out).cell (i := 3) (by omega)
          have c4 := (hx6.rowIs R5.out).cell (i := 4) (by omega)
          have c5 := (hx6.rowIs R5.out).cell (i := 5) (by omega)
          have c6 := (hx6.rowIs R5.out).cell (i := 6) (by omega)
          have c7 := (hx6.rowIs R5.out).cell (i := 7) (by omega)
          have c8 := (hx6.rowIs R5.out).cell (i := 8) (by omega)
          have c9 := (hx6.rowIs R5.out).cell (i := 9) (by omega)
          have c10 := (hx6.rowIs R5.out).cell (i := 10) (by omega)
          have c11 := (hx6.rowIs R5.out).cell (i := 11) (by omega)
          have c12 := (hx6.rowIs R5.out).cell (i := 12) (by omega)
          unfold ivs at c0 c1 c2 c3 c4 c5 c6 c7 c8 c9 c10 c11 c12
          clear hx6
          go_wp2_with fail
          go_ret
          exact ⟨rfl, X6.out⟩
      · clear hlt hend1
        go_wp2_with fail
        refine (Decode_any (some ⟨g, 0, none⟩) m cy G _ hcy HY.out).mono ?_
        rintro e v4 ⟨rfl, hx4⟩
        by_cases hw : wrdOf W p = wrdOf G p
        · rw [HDEC0.out hw]
          generalize decV m G = U
          have X5 : Hid (Ext wr (v4.alloc (.cells #[.int .i64 (U 0), .int .i64 (U 1), .int .i64 (U 2), .int .i64 (U 3), .int .i64 (U 4), .int .i64 (U 5), .int .i64 (U 6), .int .i64 (U 7), .int .i64 (U 8), .int .i64 (U 9), .int .i64 (U 10), .int .i64 (U 11), .int .i64 (U 12)] 28))) := hx4.alloc _ _
          go_upto_region 11 with fail
          generalize v4.alloc (.cells #[.int .i64 (U 0), .int .i64 (U 1), .int .i64 (U 2), .int .i64 (U 3), .int .i64 (U 4), .int .i64 (U 5), .int .i64 (U 6), .int .i64 (U 7), .int .i64 (U 8), .int .i64 (U 9), .int .i64 (U 10), .int .i64 (U 11), .int .i64 (U 12)] 28) = v5 at *
          generalize v4.heap.size = g8 at *
          clear hx4
          go_wp2_with fail
          refine (sameBytesK_any (some ⟨g0, 0, none⟩) (some ⟨g, 0, none⟩) m m cy W G _ (by omega) (HXX.out.ext X5.out) (HY.out.ext X5.out) fun i _ => HSAME.out hw i).mono ?_
          rintro e v6 ⟨rfl, hx6⟩
          have X6 : Hid (Ext w v6) := X4.out.trans (X5.out.trans hx6)
          clear hx6
          go_wp2_with fail
          go_ret
          exact ⟨rfl, X6.out⟩
        · have hd := (HDEC1.out hw).2
          rw [(HDEC1.out hw).1, hd, hd, hd, hd, hd, hd, hd, hd, hd, hd, hd, hd, hd]
          clear hd
          have X5 : Hid (Ext wr (v4.alloc (.cells #[.int .i64 ((fun _ => (0 : Int)) 0), .int .i64 ((fun _ => (0 : Int)) 1), .int .i64 ((fun _ => (0 : Int)) 2), .int .i64 ((fun _ => (0 : Int)) 3), .int .i64 ((fun _ => (0 : Int)) 4), .int .i64 ((fun _ => (0 : Int)) 5), .int .i64 ((fun _ => (0 : Int)) 6), .int .i64 ((fun _ => (0 : Int)) 7), .int .i64 ((fun _ => (0 : Int)) 8), .int .i64 ((fun _ => (0 : Int)) 9), .int .i64 ((fun _ => (0 : Int)) 10), .int .i64 ((fun _ => (0 : Int)) 11), .int .i64 ((fun _ => (0 : Int)) 12)] 28))) := hx4.alloc _ _
          have R5 : Hid ((v4.alloc (.cells #[.int .i64 ((fun _ => (0 : Int)) 0), .int .i64 ((fun _ => (0 : Int)) 1), .int .i64 ((fun _ => (0 : Int)) 2), .int .i64 ((fun _ => (0 : Int)) 3), .int .i64 ((fun _ => (0 : Int)) 4), .int .i64 ((fun _ => (0 : Int)) 5), .int .i64 ((fun _ => (0 : Int)) 6), .int .i64 ((fun _ => (0 : Int)) 7), .int .i64 ((fun _ => (0 : Int)) 8), .int .i64 ((fun _ => (0 : Int)) 9), .int .i64 ((fun _ => (0 : Int)) 10), .int .i64 ((fun _ => (0 : Int)) 11), .int .i64 ((fun _ => (0 : Int)) 12)] 28)).rowIs v4.heap.size 28 13 (ivs fun _ => 0)) := row13_alloc v4 28 (ivs fun _ => 0)
          go_upto_region 11 with fail
          generalize v4.alloc (.cells #[.int .i64 ((fun _ => (0 : Int)) 0), .int .i64 ((fun _ => (0 : Int)) 1), .int .i64 ((fun _ => (0 : Int)) 2), .int .i64 ((fun _ => (0 : Int)) 3), .int .i64 ((fun _ => (0 : Int)) 4), .int .i64 ((fun _ => (0 : Int)) 5), .int .i64 ((fun _ => (0 : Int)) 6), .int .i64 ((fun _ => (0 : Int)) 7), .int .i64 ((fun _ => (0 : Int)) 8), .int .i64 ((fun _ => (0 : Int)) 9), .int .i64 ((fun _ => (0 : Int)) 10), .int .i64 ((fun _ => (0 : Int)) 11), .int .i64 ((fun _ => (0 : Int)) 12)] 28) = v5 at *
          generalize v4.heap.size = g8 at *
          clear hx4
          go_wp2_with fail
          refine (sameBytesK_no (some ⟨g0, 0, none⟩) (some ⟨g, 0, none⟩) m m cy W G _ (by omega) (HXX.out.ext X5.out) (HY.out.ext X5.out) (HDIFF.out hw)).mono ?_
          rintro e v6 ⟨rfl, hx6⟩
          have X6 : Hid (Ext w v6) := X4.out.trans (X5.out.trans hx6)
          have c0 := (hx6.rowIs R5.out).cell (i := 0) (by omega)
          have c1 := (hx6.rowIs R5.out).cell (i := 1) (by omega)
          have c2 := (hx6.rowIs R5.out).cell (i := 2) (by omega)
          have c3 := (hx6.rowIs R5.out).cell (i := 3) (by omega)
          have c4 := (hx6.rowIs R5.out).cell (i := 4) (by omega)
          have c5 := (hx6.rowIs R5.out).cell (i := 5) (by omega)
          have c6 := (hx6.rowIs R5.out).cell (i := 6) (by omega)
          have c7 := (hx6.rowIs R5.out).cell (i := 7) (by omega)
          have c8 := (hx6.rowIs R5.out).cell (i := 8) (by omega)
          have c9 := (hx6.rowIs R5.out).cell (i := 9) (by omega)
          have c10 := (hx6.rowIs R5.out).cell (i := 10) (by omega)
          have c11 := (hx6.rowIs R5.out).cell (i := 11) (by omega)
          have c12 := (hx6.rowIs R5.out).cell (i := 12) (by omega)
          unfold ivs at c0 c1 c2 c3 c4 c5 c6 c7 c8 c9 c10 c11 c12
          clear hx6
          go_wp2_with fail
          go_ret
          exact ⟨rfl, X6.out⟩
end Go.Proofs.Ytemndnpbbkjmhab.labelTouched
