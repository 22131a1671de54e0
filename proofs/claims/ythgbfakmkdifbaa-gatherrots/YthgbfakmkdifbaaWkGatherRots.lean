/-
  Whatever as many columns of a block as parity have become, something with its sum is told; no condition.
-/
import Derived.Test.YthgbfakmkdifbaaRows
import Derived.WalkKit
import Derived.ProofKit
import Derived.OpenShut
import Derived.ChangeOld
import Derived.Below
import Derived.BigQuiet
import Derived.Deep.CutRange
import Derived.Deep.QuietTactic
import Derived.Deep.RegionLaw
import Derived.Test.YthgbfakmkdifbaaOpn
import Derived.Test.YthgbfakmkdifbaaChecked
import Derived.Test.YthgbfakmkdifbaaRots
import Derived.Test.YthgbfakmkdifbaaGeo2
import Derived.Test.YthgbfakmkdifbaaKeepSev
import Derived.Test.YthgbfakmkdifbaaSameB
namespace Go.Proofs.Ythgbfakmkdifbaa.gatherRots
open Go.ChangeShapes Go.WideShapes Go.ChangeAt Go.RowKit Go.Deep E
set_option linter.unusedVariables false
theorem fitN_of {N : Nat} {T : Nat → Bool} {L W : Nat → Nat} (h : ∀ r, r < N → T r = false → L r = W r) : fitN N T L W = true := by
  refine fitN_true fun r hr => ?_
  unfold fitAt
  cases e : T r with
  | true => simp
  | false => simp [h r hr e]
theorem xorB8 (x y : E) : bits .xor .u8 (ev x) (ev y) = ev (ad x y) := u8_xor_nat x.val y.val x.lt y.lt
set_option maxRecDepth 100000 in
set_option maxHeartbeats 40000000 in
theorem walk (a0 : Int) (a1 : Int) (a2 : Int) (a3 : Option Addr) (n3 c3 : Nat) (f3 : Nat → E) (a4 : Option Addr) (n4 c4 : Nat) (f4 : Nat → Int) (a5 : Option Addr) (n5 c5 : Nat) (f5 : Nat → E) (l6 : Bool) (w : World) (w0 : -9223372036854775808 ≤ a0 ∧ a0 ≤ 9223372036854775807) (w1 : -9223372036854775808 ≤ a1 ∧ a1 ≤ 9223372036854775807) (w2 : -9223372036854775808 ≤ a2 ∧ a2 ≤ 9223372036854775807) (h3 : Byts w a3 n3 f3) (b3 : n3 ≤ c3 ∧ c3 ≤ 9223372036854775807) (z3 : c3 * 1 ≤ 140737488351232) (h4 : Ints w a4 n4 f4) (b4 : n4 ≤ 9223372036854775807 ∧ ∀ i, i < n4 → -9223372036854775808 ≤ f4 i ∧ f4 i ≤ 9223372036854775807) (z4 : n4 ≤ c4 ∧ c4 * 8 ≤ 140737488351232) (h5 : Byts w a5 n5 f5) (b5 : n5 ≤ c5 ∧ c5 ≤ 9223372036854775807) (z5 : c5 * 1 ≤ 140737488351232) :
    Calls Try.prog 5 #[.int .i64 a0, .int .i64 a1, .int .i64 a2, .slice a3 n3 c3, .slice a4 n4 c4, .slice a5 n5 c5, .bool l6] w fun e w' => e = .returned (.bool true) ∧ Ext w w' := by
  have HB : Hid (Byts w a3 n3 f3) := h3
  have HL : Hid (Ints w a4 n4 f4) := h4
  have HBY5 : Hid (Byts w a5 n5 f5) := h5
  have HLB : Hid (∀ i, i < n4 → -9223372036854775808 ≤ f4 i ∧ f4 i ≤ 9223372036854775807) := b4.2
  have hn4 := b4.1
  obtain ⟨b31, b32⟩ := b3
  obtain ⟨hlc, z4'⟩ := z4
  obtain ⟨d, p, hd1, hd2, hp1, hp2, hp3, HS⟩ := Shape_nat a0 a1 w0 w1
  obtain ⟨X, hX, hX1⟩ := picked_is a2 60000 (by omega)
  have HPK : Hid (∀ w, Calls Try.prog 13 #[.int .i64 a2, .int .i64 60000] w fun e w' => e = .returned (.int .i64 X) ∧ w' = w) := fun w => Picked_bd a2 60000 X w (by omega) (by omega) w2 hX
  have HSH : Hid (∀ w, Calls Try.prog 12 #[.int .i64 a0, .int .i64 a1] w fun e w' => e = .returned (.tuple #[.int .i64 (d : Nat), .int .i64 (p : Nat)]) ∧ w' = w) := HS
  clear h3 h4 h5 b4 HS hX
  go_enter Try.func5, Try.ntmps5
  go_wp2_with fail
  refine (HSH.out _).mono ?_
  rintro e v1 ⟨rfl, rfl⟩
  go_wp2_with fail
  refine (HPK.out _).mono ?_
  rintro e v2 ⟨rfl, rfl⟩
  go_wp2_with fail
  refine (Block_any a3 n3 c3 f3 _ b31 b32 HB.out).mono ?_
  rintro e v3 ⟨⟨vb, rfl, hvb⟩, hx3⟩
  obtain ⟨ab, cb, rfl, hby⟩ := own_byts hvb
  obtain ⟨m, hm⟩ : ∃ m, blkN n3 = m := ⟨_, rfl⟩
  obtain ⟨B, hBB⟩ : ∃ B, blkF n3 f3 = B := ⟨_, rfl⟩
  have hmb := blkN_bd n3
  rw [hm] at hmb hvb hby ⊢
  rw [hBB] at hby
  have HBY : Hid (Byts v3 ab m B) := hby
  have HXa : Hid (Ext v2 v3) := hx3
  have hszm : szOk m = true := (szOk_iff m).2 (by omega)
  have hso : StOk d p (secs m) := ⟨by omega, by omega, by omega, by omega, by omega, (secs_bd hszm).1, (secs_bd hszm).2.1⟩
  have HSO : Hid (StOk d p (secs m) ∧ szOk m = true) := ⟨hso, hszm⟩
  have hNb := hso.N
  obtain ⟨N, hNN⟩ : ∃ N, colN d p (secs m) = N := ⟨_, rfl⟩
  rw [hNN] at hNb
  have HN : Hid (colN d p (secs m) = N) := hNN
  clear hvb hby hx3 hm hBB hszm hso hNN HPK HSH
  go_wp2_with fail
  refine (laid_any d p X m ab cb B v3 HSO.out.1 (by omega) HSO.out.2 HBY.out).mono ?_
  rintro e v4 ⟨vl, A, C, rfl, wm, hxa, hxb, hbytes, hown⟩
  obtain ⟨s, hs⟩ : ∃ s : Nat → Int, (fun i => moreV (128 * secs m) (fun _ => 0) (padZ m B) i) = s := ⟨_, rfl⟩
  have hsv : sumVs (secs m) (padZ m B) = .agg #[.int .i64 (s 0), .int .i64 (s 1), .int .i64 (s 2), .int .i64 (s 3)] := by rw [← hs]; rfl
  rw [hsv]
  rw [HN.out] at hown hbytes
  obtain ⟨g, cap, rfl, hg1, hg2⟩ := own_some hown (by omega)
  have HXm : Hid (Ext v2 wm) := HXa.out.trans hxa
  have HXb : Hid (Ext wm v4) := hxb
  have HBS : Hid (∀ r, r < N → Byts wm (A r) (wdB d p (secs m) r) (layF d p (secs m) m B r)) := hbytes
  have HOW : Hid (v4.ownsRow wm.heap.size 42 2 (.slice (some ⟨g, 0, none⟩) N cap) N ((List.range N).map (pcC A (wdB d p (secs m)) C fun _ => false)).flatten) := hown
  have HX4 : Hid (Ext v2 v4) := HXm.out.trans hxb
  have HSS : Hid (∀ i, moreV (128 * secs m) (fun _ => 0) (padZ m B) i = s i) := fun i => by rw [← hs]
  have HBYm : Hid (Byts wm ab m B) := HBY.out.ext hxa
  clear hxa hxb hbytes hown hs hsv HBY HXa
  go_upto_region 7 with fail
  obtain ⟨v5, hv5⟩ : ∃ v5, v4.alloc (.cells #[.int .i64 (s 0), .int .i64 (s 1), .int .i64 (s 2), .int .i64 (s 3)] 37) = v5 := ⟨_, rfl⟩
  have hx45 : Ext v4 v5 := by rw [← hv5]; exact (Ext.refl v4).alloc _ _
  have HX45 : Hid (Ext v4 v5) := hx45
  have HBS5 : Hid (v5.heap[v4.heap.size]? = some (.cells #[.int .i64 (s 0), .int .i64 (s 1), .int .i64 (s 2), .int .i64 (s 3)] 37 (0, 0))) := by show _ = _; rw [← hv5]; exact heap_alloc_new _ _
  rw [hv5]
  clear hv5
  clear hx45
  go_wp2_with fail
  refine (Several_any a4 n4 c4 f4 p N _ (by omega) (by omega) (by omega) (HL.out.ext (HX4.out.trans HX45.out)) HLB.out).mono ?_
  rintro e v11 ⟨has, vg, rfl, hownG, hgl, hall, hx11⟩
  obtain ⟨ng, hlen⟩ : ∃ ng, (PL N has).length = ng := ⟨_, rfl⟩
  have HLN : Hid ((PL N has).length = ng) := hlen
  rw [hlen] at hgl
  have HGL : Hid (ng ≤ p) := hgl
  have hg10 : g < v5.heap.size := Nat.lt_of_lt_of_le hg2 HX45.out.size
  obtain ⟨ag, cg, rfl, hGx⟩ := own_places hownG
  clear hGx
  have HGI : Hid (∀ W, Wro (· = g) v11 W → Ints W ag ng fun i => (((PL N has).getD i 0 : Nat) : Int)) := fun W hw => by
    have h1 := own_wro2 hownG hw fun b hb q => by
      have := (own_ge hownG q).1
      omega
    obtain ⟨a', c', e, h2⟩ := own_places h1
    cases e
    rw [← hlen]
    exact h2
  have HO11 : Hid (v11.ownsRow wm.heap.size 42 2 (.slice (some ⟨g, 0, none⟩) N cap) N ((List.range N).map (pcC A (wdB d p (secs m)) C fun _ => false)).flatten) := own_ext HOW.out (HX45.out.trans hx11)
  have HX511 : Hid (Ext v5 v11) := hx11
  rw [hlen]
  clear hownG hall hlen hx11 HOW HLB
  go_wp2_with fail
  go_loopw [23] (fun i wr => ∃ k : Nat, k ≤ ng ∧ i = .int .i64 k ∧ Wro (· = g) v11 wr ∧ Rot d p (secs m) m N B g cap wm.heap.size (rotS l6 (PL N has) k) (frst (PL N has) k) wr) (fun i _ => ng - (intOf i).toNat)
  case atStart => exact ⟨0, Nat.zero_le _, rfl, Wro.refl _ _, A, C, layF d p (secs m) m B, by rw [show rotS l6 (PL N has) 0 = fun _ => false from by funext x; simp [rotS]]; exact HO11.out, fun r hr => ((HBS.out r hr).below hg1).ext ((HXb.out.trans HX45.out).trans HX511.out), fun _ _ => rfl⟩
  case round =>
    obtain ⟨k, hk, rfl, hw, hrot⟩ := hrel
    have HRT : Hid (Rot d p (secs m) m N B g cap wm.heap.size (rotS l6 (PL N has) k) (frst (PL N has) k) wr) := hrot
    have HW : Hid (Wro (· = g) v11 wr) := hw
    clear hrot hw
    by_cases hkn : k < ng
    · have i1 : (k : Int) < (ng : Int) := by omega
      obtain ⟨bb, oo, rfl, hck0⟩ := HGI.out wr HW.out k hkn
      obtain ⟨r, hr⟩ : ∃ r, (PL N has).getD k 0 = r := ⟨_, rfl⟩
      have hck : wr.cell? ⟨bb, oo + k, none⟩ = some (.int .i64 (((PL N has).getD k 0 : Nat) : Int)) := hck0
      clear hck0
      rw [hr] at hck
      have hrN : r < N := by
        rw [← hr, List.getD_eq_getElem?_getD, List.getElem?_eq_getElem (by rw [HLN.out]; exact hkn)]
        exact (PL_mem.1 (List.getElem_mem _)).1
      have hri : (r : Int) < (N : Int) := by omega
      have HR : Hid ((PL N has).getD k 0 = r) := hr
      have HRN : Hid (r < N) := hrN
      have HK : Hid (frst (PL N has) (k + 1) = fun x => x == r || frst (PL N has) k x) := by show _ = _; rw [frst_s _ _ (by rw [HLN.out]; exact hkn), hr]
      clear hr
      by_cases hl : l6 = true ∧ k = 0
      · obtain ⟨rfl, hk0⟩ := hl
        have hkB : ((k : Int) == 0) = true := by rw [beq_iff_eq]; omega
        have HK0 : Hid (k = 0) := hk0
        clear hk0
        obtain ⟨A2, C2, F2, hO, hB2, hF2⟩ := HRT.out
        obtain ⟨x, y, hxy, hc0, hc1, hf0, hf1⟩ := pc_cells hO hrN
        clear hxy hO hB2 hF2
        clear z3 hn4 b31 b32 hlc z4' hX1 hg1 hg2 hg10 hd1 hd2 hmb w0 w1 w2 hrN
        go_wp2_with fail
        go_roundw
        case rel => exact ⟨k + 1, by omega, by go_num, (HW.out.setCell (p := ⟨g, r * 2, none⟩) rfl _).setCell (p := ⟨g, r * 2 + 1, none⟩) rfl _, HRT.out.lose HRN.out (by funext x; have h1 := HR.out; rw [HK0.out, List.getD_eq_getElem?_getD] at h1; rw [HK0.out]; simp [rotS, h1]) (fun x hx => by rw [HK.out] at hx; simp at hx; exact hx.2)⟩
        case measure => simp [intOf]; omega
      · have hsr : rotS l6 (PL N has) k r = false := by
          unfold rotS
          cases hl6 : l6 with
          | false => rfl
          | true =>
            have hk0 : 0 < k := Nat.pos_of_ne_zero fun e => hl ⟨hl6, e⟩
            have := PL_lt (n := N) (ok := has) hk0 (by rw [HLN.out]; exact hkn)
            have h1 := HR.out
            simp
            intro _ e
            rw [← List.getD_eq_getElem?_getD] at e
            omega
        have hss : rotS l6 (PL N has) (k + 1) = rotS l6 (PL N has) k := by
          funext x
          unfold rotS
          cases hl6 : l6 with
          | false => rfl
          | true =>
            have hk0 : 0 < k := Nat.pos_of_ne_zero fun e => hl ⟨hl6, e⟩
            simp [hk0]
        have HSR : Hid (rotS l6 (PL N has) k r = false ∧ rotS l6 (PL N has) (k + 1) = rotS l6 (PL N has) k) := ⟨hsr, hss⟩
        obtain ⟨A2, C2, F2, hO, hB2, hF2⟩ := HRT.out
        have hxy : pcC A2 (wdB d p (secs m)) C2 (rotS l6 (PL N has) k) r = [.bool false, .slice (A2 r) (wdB d p (secs m) r) (C2 r)] := by unfold pcC; rw [hsr]; rfl
        obtain ⟨x, y, hxy2, hc0, hc1, hf0, hf1⟩ := pc_cells hO hrN
        rw [hxy] at hxy2
        simp only [List.cons.injEq, and_true] at hxy2
        obtain ⟨rfl, rfl⟩ := hxy2
        obtain ⟨wd, hwd⟩ : ∃ wd, wdB d p (secs m) r = wd := ⟨_, rfl⟩
        have hwb := HSO.out.1.wd (i := r) (by rw [HN.out]; exact hrN)
        have hwb2 : 128 ≤ wd ∧ wd ≤ 4096 := by omega
        have HWD : Hid (wdB d p (secs m) r = wd) := hwd
        rw [hwd] at hc1
        have HO2 : Hid (wr.ownsRow wm.heap.size 42 2 (.slice (some ⟨g, 0, none⟩) N cap) N ((List.range N).map (pcC A2 (wdB d p (secs m)) C2 (rotS l6 (PL N has) k))).flatten) := hO
        have HB2 : Hid (∀ r, r < N → BytsX g wr (A2 r) (wdB d p (secs m) r) (F2 r)) := hB2
        have HF2 : Hid (∀ r, frst (PL N has) k r = false → F2 r = layF d p (secs m) m B r) := hF2
        have HBR : Hid (Byts wr (A2 r) wd (F2 r)) := by
          have := (hB2 r hrN).byts
          rw [hwd] at this
          exact this
        have HXr : Hid (Ext v2 wr) := wro_ext ((HX4.out.trans HX45.out).trans HX511.out) HW.out (Nat.le_trans HXm.out.size hg1)
        have HGW : Hid (g < wr.heap.size) := Nat.lt_of_lt_of_le hg10 (Nat.le_trans HX511.out.size HW.out.size)
        have key : (l6 = false) ∨ (l6 = true ∧ ((k : Int) == 0) = false) := by
          cases hl6 : l6 with
          | false => exact Or.inl rfl
          | true => exact Or.inr ⟨rfl, by rw [beq_eq_false_iff_ne]; intro e; exact hl ⟨hl6, by omega⟩⟩
        clear hO hB2 hF2 hxy hsr hss hwd hwb hl
        clear z3 hn4 b31 b32 hlc z4' hX1 hg1 hg2 hg10 hd1 hd2 hmb w0 w1 w2 hrN
        rcases key with rfl | ⟨rfl, hkB⟩
        all_goals
          go_wp2_with (first | (at_builtin; refine append_vals wr rfl (.const (.slice none 0 0)) (.tmp 81) 22 rfl wr.heap.size 5 (.int .u8 0) 1 Try.underlying22 infoByte rfl (.slice none 0 0) 0 [] rfl (World.ownsRow_nil _ _ _ _) (A2 r) wd (C2 r) (bvs (F2 r)) rfl HBR.out (fun _ _ => rfl) (by omega) (by omega) (Nat.le_refl _) ?_) | go_in)
          intro vy w5 howny hgrowy
          obtain ⟨wo, hwo⟩ : ∃ wo, wo = wr := ⟨_, rfl⟩
          subst hwo
          have hx5 : Ext wo w5 := (Ext.refl wo).grow hgrowy fun _ hk => by cases hk
          have howny2 : w5.ownsRow wo.heap.size 5 1 vy wd ((List.range wd).map (bvs (F2 r))) := by simpa using howny
          obtain ⟨gy, cy, rfl, hgy1, hgy2⟩ := own_some howny2 (by omega)
          have HX5 : Hid (Ext wo w5) := hx5
          have HOY : Hid (w5.ownsRow wo.heap.size 5 1 (.slice (some ⟨gy, 0, none⟩) wd cy) wd ((List.range wd).map (bvs (F2 r)))) := howny2
          have HGY : Hid (wo.heap.size ≤ gy) := hgy1
          have H5r : Hid (Byts wo a5 n5 f5) := HBY5.out.ext HXr.out
          clear howny howny2 hgrowy hx5 hgy1 hgy2 hc0 hc1 hf0 hf1 hck
          go_wp2_with fail
          go_loopw [26] (fun i wq => ∃ j : Nat, j ≤ wd ∧ i = .int .i64 j ∧ Wro (· = gy) w5 wq ∧ ∃ f : Nat → E, wq.ownsRow wo.heap.size 5 1 (.slice (some ⟨gy, 0, none⟩) wd cy) wd ((List.range wd).map (bvs f))) (fun i _ => wd - (intOf i).toNat)
          case atStart => exact ⟨0, Nat.zero_le _, rfl, Wro.refl _ _, _, HOY.out⟩
          case round =>
            obtain ⟨j, hj, rfl, hwq, f, hoq⟩ := hrel
            have HWQ : Hid (Wro (· = gy) w5 wr) := hwq
            have HOQ : Hid (wr.ownsRow wo.heap.size 5 1 (.slice (some ⟨gy, 0, none⟩) wd cy) wd ((List.range wd).map (bvs f))) := hoq
            clear hwq hoq
            by_cases hlt : j < wd ∧ j < n5
            · obtain ⟨l1, l2⟩ := hlt
              have j1 : (j : Int) < (wd : Int) := by omega
              have j2 : (j : Int) < (n5 : Int) := by omega
              obtain ⟨cur, hcur⟩ := own_block HOQ.out (g := gy) rfl
              have hcy : wr.cell? ⟨gy, j, none⟩ = some (.int .u8 (ev (f j))) := by
                obtain ⟨b, o, e, hv⟩ := own_slice_at HOQ.out j l1
                cases e
                rw [Nat.zero_add] at hv
                rw [hv]
                simp [l1, bvs]
              have hfy : wr.frozen? ⟨gy, j, none⟩ = false := frozen_of_row _ _ _ _ _ hcur
              clear hcur
              obtain ⟨b5, o5, rfl, hc5⟩ := (H5r.out.ext (wro_ext HX5.out HWQ.out HGY.out)) j l2
              have hxor := xorB8 (f j) (f5 j)
              go_wp2_with fail
              refine wp_region_still_tail 10 (by kernel_rfl) (by kernel_rfl) ?_
              simp only [List.take_succ_cons, List.take_zero, List.drop_succ_cons, List.drop_zero]
              repeat still_step
              refine wpStill_nil ?_
              go_wp2_with fail
              go_roundw
              case rel =>
                refine ⟨j + 1, by omega, by go_num, (HWQ.out.setCell (p := ⟨gy, j, none⟩) rfl _).drew, updO f j (ad (f j) (f5 j)), ?_⟩
                have h9 := (HOQ.out.stored j (.int .u8 (ev (ad (f j) (f5 j))))).1
                rw [range_setB] at h9
                exact own_ext h9 (Ext.refl _).drew
              case measure => simp [intOf]; omega
            · have hx6 : Ext wo wr := wro_ext HX5.out HWQ.out HGY.out
              have hc1 : wr.cell? ⟨g, r * 2 + 1, none⟩ = some (.slice (A2 r) wd (C2 r)) := hx6.keeps (by
                obtain ⟨x, y, hxy2, _, hc1, _⟩ := pc_cells HO2.out HRN.out
                unfold pcC at hxy2
                rw [HSR.out.1] at hxy2
                simp only [Bool.false_eq_true, if_false, List.cons.injEq, and_true] at hxy2
                obtain ⟨_, rfl⟩ := hxy2
                rw [hc1, HWD.out])
              have hf1 : wr.frozen? ⟨g, r * 2 + 1, none⟩ = false := by
                obtain ⟨cur, hcur⟩ := own_block (own_ext HO2.out hx6) (g := g) rfl
                exact frozen_of_row _ _ _ _ _ hcur
              have HX6 : Hid (Ext wo wr) := hx6
              have j3 : ((j : Int) < (wd : Int) → ¬ (j : Int) < (n5 : Int)) := by omega
              clear hx6
              go_wp2_with fail
              all_goals
                refine ⟨⟨k + 1, by omega, by go_num, (wro_then HW.out HX6.out).setCell (p := ⟨g, r * 2 + 1, none⟩) rfl _, ?_⟩, by simp [intOf]; omega⟩
                rw [HSR.out.2]
                have hbx : BytsX g wr (some ⟨gy, 0, none⟩) (wdB d p (secs m) r) f := by rw [HWD.out]; exact own_bytsX HOQ.out HGW.out
                have h8 := Rot.data (n := m) (B := B) (ch' := frst (PL N has) (k + 1)) (own_ext HO2.out HX6.out) (fun x hx => (HB2.out x hx).ext HX6.out) HF2.out HRN.out HSR.out.1 (fun x hx => by rw [HK.out] at hx; simp at hx; exact ⟨hx.2, hx.1⟩) cy hbx
                rw [HWD.out] at h8
                exact h8
    · obtain rfl : k = ng := by omega
      obtain ⟨T, hT⟩ : ∃ T, rotS l6 (PL N has) k = T := ⟨_, rfl⟩
      have hTC : ∀ r, r < N → (T r || frst (PL N has) k r) = has r := fun r hr => by
        have e : frst (PL N has) k r = has r := by rw [← HLN.out]; exact frst_PL N has hr
        rw [e, ← hT]
        unfold rotS
        cases hh : has r with
        | true => simp
        | false =>
          simp only [Bool.or_false]
          cases h6 : (l6 && decide (0 < k)) with
          | false => simp
          | true =>
            simp only [Bool.true_and, beq_eq_false_iff_ne]
            intro q
            simp only [Bool.and_eq_true, decide_eq_true_eq] at h6
            have := (PL_at (n := N) (ok := has) (i := 0) (by rw [HLN.out]; exact h6.2)).2
            rw [← q, hh] at this
            cases this
      have HTC : Hid (∀ r, r < N → (T r || frst (PL N has) k r) = has r) := hTC
      rw [hT] at HRT
      obtain ⟨A2, C2, F2, hO, hB2, hF2⟩ := HRT.out
      have HF2 : Hid (∀ r, frst (PL N has) k r = false → F2 r = layF d p (secs m) m B r) := hF2
      have hxw : Ext wm wr := wro_ext ((HXb.out.trans HX45.out).trans HX511.out) HW.out hg1
      have HPC : Hid (Pcs wr (some ⟨g, 0, none⟩) N T (fun r => if T r then none else A2 r) (fun r => if T r then 0 else wdB d p (secs m) r) (fun r => if T r then 0 else C2 r) F2) := pc_pcs hO fun r hr => (hB2 r hr).byts
      have hb5 : wr.heap[v4.heap.size]? = some (.cells #[.int .i64 (s 0), .int .i64 (s 1), .int .i64 (s 2), .int .i64 (s 3)] 37 (0, 0)) := (HW.out.block _ (by have := (Array.getElem?_eq_some_iff.1 (extBlk HX511.out HBS5.out)).1; exact this) (fun q => by omega)).trans (extBlk HX511.out HBS5.out)
      have HS5 : Hid (wr.heap[v4.heap.size]? = some (.cells #[.int .i64 (s 0), .int .i64 (s 1), .int .i64 (s 2), .int .i64 (s 3)] 37 (0, 0))) := hb5
      have t0 : wr.cell? ⟨v4.heap.size, 0, none⟩ = some (.int .i64 (s 0)) := by rw [cell_of_row _ _ 0 _ _ _ hb5]; rfl
      have t1 : wr.cell? ⟨v4.heap.size, 1, none⟩ = some (.int .i64 (s 1)) := by rw [cell_of_row _ _ 1 _ _ _ hb5]; rfl
      have t2 : wr.cell? ⟨v4.heap.size, 2, none⟩ = some (.int .i64 (s 2)) := by rw [cell_of_row _ _ 2 _ _ _ hb5]; rfl
      have t3 : wr.cell? ⟨v4.heap.size, 3, none⟩ = some (.int .i64 (s 3)) := by rw [cell_of_row _ _ 3 _ _ _ hb5]; rfl
      have HXE : Hid (Ext v2 wr) := HXm.out.trans hxw
      have HXW : Hid (Ext wm wr) := hxw
      have HLT : Hid ((PL N fun r => T r || frst (PL N has) k r).length ≤ p) := by
        show _ ≤ _
        rw [PL_same hTC, HLN.out]
        exact HGL.out
      clear hb5 hxw hO hB2 hF2 hTC hT HRT z3 hn4 b31 b32 hlc z4' hg1 hg2 hg10 w0 w1 w2 hk hkn
      go_wp2_with fail
      have hFIT : fitN N T (fun r => if T r then 0 else wdB d p (secs m) r) (wdB d p (secs m)) = true := fitN_of fun r hr e => by simp [e]
      have hLL : ∀ r, r < N → (if T r then 0 else wdB d p (secs m) r) ≤ 9223372036854775807 := fun r hr => by
        have := (HSO.out.1.wd (i := r) (by rw [HN.out]; exact hr)).2
        split <;> omega
      have hPT : (plcs N T true).length ≤ p := by
        have h1 := two_len N T (frst (PL N has) k)
        have h2 := HLT.out
        omega
      refine (Gather_ok d p X m (some ⟨g, 0, none⟩) N cap T _ _ _ _ s wr HSO.out.1 (by omega) HSO.out.2 HN.out.symm hFIT hPT hLL HPC.out).mono ?_
      rintro e v12 ⟨hres, hx12⟩
      obtain ⟨kk, hgf, hsum, hkk⟩ := rot_some (n := m) (B := B) (T := T) (ch := frst (PL N has) k) (L := fun r => if T r then 0 else wdB d p (secs m) r) (F := F2) (s := s) HSO.out.1 (by rw [HN.out]; exact HLT.out) (fun r hr e => by
        simp only [Bool.or_eq_false_iff] at e
        simp [e.1]) (fun r hr e => by
        simp only [Bool.or_eq_false_iff] at e
        exact HF2.out r e.2) HSS.out
      unfold GatRes at hres
      rw [hgf] at hres
      obtain ⟨ad, ab', cb', rfl, hby, hzz⟩ := hres
      obtain ⟨G, hG⟩ : ∃ G, gatP d p (secs m) T (fun r => if T r then 0 else wdB d p (secs m) r) F2 kk = G := ⟨_, rfl⟩
      rw [hG] at hby hsum
      have HBD : Hid (Byts v12 ad m G) := hby
      have HSM : Hid (sumB4 (secs m) s G = true) := hsum
      have HX12 : Hid (Ext wr v12) := hx12
      have i9 : ¬ (p : Int) < (kk.length : Int) := by omega
      have HKK : Hid (kk.length ≤ p) := hkk
      clear hzz hby hgf hsum hG hPT hLL hFIT hx12 hkk t0 t1 t2 t3
      generalize kk.length = kl at *
      have HMBd : Hid (1 ≤ m ∧ m ≤ 1000) := hmb
      clear hgl hd1 hd2 hp1 hp2 hp3 hX1 hmb hNb b5 z5
      by_cases hse : ∀ i, i < m → G i = B i
      · have HSE : Hid (∀ i, i < m → G i = B i) := hse
        clear hse
        go_upto_region 21 with fail
        go_wp2_with fail
        refine (sameBytesK_any ad ab m m cb G B v12 (by have := HMBd.out; omega) HBD.out (HBYm.out.ext (HXW.out.trans HX12.out)) HSE.out).mono ?_
        rintro e v13 ⟨rfl, hx13⟩
        go_wp2_with fail
        go_ret
        exact ⟨rfl, (HXE.out.trans HX12.out).trans hx13⟩
      · have HSE : Hid (¬ ∀ i, i < m → G i = B i) := hse
        clear hse
        go_upto_region 21 with fail
        go_wp2_with fail
        refine (sameBytesK_no ad ab m m cb G B v12 (by have := HMBd.out; omega) HBD.out (HBYm.out.ext (HXW.out.trans HX12.out)) HSE.out).mono ?_
        rintro e v13 ⟨rfl, hx13⟩
        have HX13 : Hid (Ext v12 v13) := hx13
        clear hx13
        go_wp2_with fail
        refine (padded_any ad m m G v13 (by have := HMBd.out; omega) (HBD.out.ext HX13.out)).mono ?_
        rintro e v14 ⟨⟨vp, rfl, hvp⟩, hx14⟩
        obtain ⟨ap, cp, rfl, hbp, hcp1, hcp2⟩ := own_room hvp
        have HX14 : Hid (Ext v13 v14) := hx14
        have HBP : Hid (Byts v14 ap (128 * secs m) (padZ m G)) := hbp
        clear hvp hx14 hbp
        go_wp2_with fail
        refine (Of_any ap (128 * secs m) cp (padZ m G) v14 hcp1 hcp2 HBP.out).mono ?_
        rintro e v15 ⟨rfl, hx15⟩
        have hme : moreE (128 * secs m) = 0 := by unfold moreE; rw [if_pos (by omega)]
        rw [hme]
        clear hme
        have HX15 : Hid (Ext wr v15) := (HX12.out.trans HX13.out).trans (HX14.out.trans hx15)
        have HVS : Hid (m % 128 = 0 → ∀ i, i < 4 → moreV (128 * secs m) (fun _ => 0) (padZ m G) i = s i) := fun h0 i hi => by
          have hm : 128 * secs m = m := by unfold secs; omega
          have h1 := HSM.out
          unfold sumB4 at h1
          rw [List.all_eq_true] at h1
          have h2 := h1 i (List.mem_range.2 hi)
          rw [decide_eq_true_eq] at h2
          rw [← h2]
          refine moreV_congr fun x hx => ?_
          unfold padZ
          rw [if_pos (by omega)]
        obtain ⟨V0, h0⟩ : ∃ V, moreV (128 * secs m) (fun _ => 0) (padZ m G) 0 = V := ⟨_, rfl⟩
        obtain ⟨V1, h1⟩ : ∃ V, moreV (128 * secs m) (fun _ => 0) (padZ m G) 1 = V := ⟨_, rfl⟩
        obtain ⟨V2, h2⟩ : ∃ V, moreV (128 * secs m) (fun _ => 0) (padZ m G) 2 = V := ⟨_, rfl⟩
        obtain ⟨V3, h3⟩ : ∃ V, moreV (128 * secs m) (fun _ => 0) (padZ m G) 3 = V := ⟨_, rfl⟩
        have HV : Hid (m % 128 = 0 → V0 = s 0 ∧ V1 = s 1 ∧ V2 = s 2 ∧ V3 = s 3) := fun h => ⟨by rw [← h0]; exact HVS.out h 0 (by omega), by rw [← h1]; exact HVS.out h 1 (by omega), by rw [← h2]; exact HVS.out h 2 (by omega), by rw [← h3]; exact HVS.out h 3 (by omega)⟩
        rw [h0, h1, h2, h3]
        clear h0 h1 h2 h3 HVS hx15 hcp1 hcp2
        have HS15 : Hid (∀ Y, Ext v15 Y → Y.heap[v4.heap.size]? = some (.cells #[.int .i64 (s 0), .int .i64 (s 1), .int .i64 (s 2), .int .i64 (s 3)] 37 (0, 0))) := fun Y y => extBlk (HX15.out.trans y) HS5.out
        go_upto_region 26 with fail
        by_cases h128 : m % 128 = 0
        · obtain ⟨rfl, rfl, rfl, rfl⟩ := HV.out h128
          have hy := (Ext.refl v15).alloc #[.int .i64 (s 0), .int .i64 (s 1), .int .i64 (s 2), .int .i64 (s 3)] 37
          have q0 : (v15.alloc (.cells #[.int .i64 (s 0), .int .i64 (s 1), .int .i64 (s 2), .int .i64 (s 3)] 37)).cell? ⟨v4.heap.size, 0, none⟩ = some (.int .i64 (s 0)) := by rw [cell_of_row _ _ 0 _ _ _ (HS15.out _ hy)]; rfl
          have q1 : (v15.alloc (.cells #[.int .i64 (s 0), .int .i64 (s 1), .int .i64 (s 2), .int .i64 (s 3)] 37)).cell? ⟨v4.heap.size, 1, none⟩ = some (.int .i64 (s 1)) := by rw [cell_of_row _ _ 1 _ _ _ (HS15.out _ hy)]; rfl
          have q2 : (v15.alloc (.cells #[.int .i64 (s 0), .int .i64 (s 1), .int .i64 (s 2), .int .i64 (s 3)] 37)).cell? ⟨v4.heap.size, 2, none⟩ = some (.int .i64 (s 2)) := by rw [cell_of_row _ _ 2 _ _ _ (HS15.out _ hy)]; rfl
          have q3 : (v15.alloc (.cells #[.int .i64 (s 0), .int .i64 (s 1), .int .i64 (s 2), .int .i64 (s 3)] 37)).cell? ⟨v4.heap.size, 3, none⟩ = some (.int .i64 (s 3)) := by rw [cell_of_row _ _ 3 _ _ _ (HS15.out _ hy)]; rfl
          clear hy h128
          go_wp2_with fail
          go_ret
          exact ⟨rfl, (HXE.out.trans HX15.out).alloc _ _⟩
        · have hne : ¬ ((m % 128 : Nat) : Int) = 0 := by omega
          have htm : (m : Int).tmod 128 = ((m % 128 : Nat) : Int) := by rw [Int.tmod_eq_emod_of_nonneg (by omega)]; omega
          have hy := (Ext.refl v15).alloc #[.int .i64 V0, .int .i64 V1, .int .i64 V2, .int .i64 V3] 37
          have q0 : (v15.alloc (.cells #[.int .i64 V0, .int .i64 V1, .int .i64 V2, .int .i64 V3] 37)).cell? ⟨v4.heap.size, 0, none⟩ = some (.int .i64 (s 0)) := by rw [cell_of_row _ _ 0 _ _ _ (HS15.out _ hy)]; rfl
          have q1 : (v15.alloc (.cells #[.int .i64 V0, .int .i64 V1, .int .i64 V2, .int .i64 V3] 37)).cell? ⟨v4.heap.size, 1, none⟩ = some (.int .i64 (s 1)) := by rw [cell_of_row _ _ 1 _ _ _ (HS15.out _ hy)]; rfl
          have q2 : (v15.alloc (.cells #[.int .i64 V0, .int .i64 V1, .int .i64 V2, .int .i64 V3] 37)).cell? ⟨v4.heap.size, 2, none⟩ = some (.int .i64 (s 2)) := by rw [cell_of_row _ _ 2 _ _ _ (HS15.out _ hy)]; rfl
          have q3 : (v15.alloc (.cells #[.int .i64 V0, .int .i64 V1, .int .i64 V2, .int .i64 V3] 37)).cell? ⟨v4.heap.size, 3, none⟩ = some (.int .i64 (s 3)) := by rw [cell_of_row _ _ 3 _ _ _ (HS15.out _ hy)]; rfl
          clear hy h128
          go_wp2_with fail
          all_goals go_ret
          all_goals exact ⟨by first | (simp; omega) | simp, (HXE.out.trans HX15.out).alloc _ _⟩
end Go.Proofs.Ythgbfakmkdifbaa.gatherRots
