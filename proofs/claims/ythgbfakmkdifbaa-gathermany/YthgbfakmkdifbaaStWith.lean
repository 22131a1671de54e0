/-
  stripe.without: the data, if some columns are rebuilt; the world only grows.
-/
import Derived.Test.YthgbfakmkdifbaaChecked
import Derived.WalkKit
import Derived.BigQuiet
import Derived.Deep.CutRange
import Derived.Deep.QuietTactic
import Derived.Deep.RegionLaw
import Derived.StillTail
import Derived.StillTailTactics
import Derived.Test.YthgbfakmkdifbaaStGm
namespace Go.Proofs.Ythgbfakmkdifbaa
open Go.RowKit Go.Deep E
theorem catW_map (d p c : Nat) (R : Nat → Nat → E) (k : Nat) : (List.range (offD d p c k)).map (bvs (catW d p c R k)) ++ (List.range (wdB d p c (p + k))).map (bvs (R k)) = (List.range (offD d p c (k + 1))).map (bvs (catW d p c R (k + 1))) := by
  rw [cat_map, offD_s]
  rfl
set_option maxRecDepth 100000 in
set_option maxHeartbeats 4000000 in
theorem without_any (a : Option Addr) (n cn : Nat) (A : Nat → Option Addr) (C : Nat → Nat) (Z : Nat → Nat → E) (ac : Option Addr) (cm d p ad c : Nat) (ag : Option Addr) (ng cg : Nat) (g : Nat → Nat) (w : World) (ho : StOk d p c) (hn : n = colN d p c) (hcm : n ≤ cm) (hg : ∀ i, i < ng → g i < n) (hd : ∀ i j, i < j → j < ng → g i ≠ g j) (hng : ng ≤ p)
    (h : Cols w a n A (fun _ => wdB d p c 0) C Z) (hc : CnS w ac d p ad c 0 n) (hgl : Ints w ag ng fun i => ((g i : Nat) : Int)) :
    Calls Try.prog 34 #[.slice a n cn, .slice ac n cm, .int .i64 p, .slice ag ng cg] w fun e w' => (∃ v, e = .returned v ∧ w'.ownsRow w.heap.size 5 1 v (128 * c) ((List.range (128 * c)).map (bvs (catW d p c (rebC n p (hasP n p fun r => hasB ng (fun i => ((g i : Nat) : Int)) r) Z) (n - p))))) ∧ Ext w w' := by
  have HH : Hid (Cols w a n A (fun _ => wdB d p c 0) C Z) := h
  have HC : Hid (CnS w ac d p ad c 0 n) := hc
  have HG : Hid (Ints w ag ng fun i => ((g i : Nat) : Int)) := hgl
  have HGB : Hid (∀ i, i < ng → g i < n) := hg
  have HO : Hid (StOk d p c) := ho
  have HN : Hid (n = colN d p c) := hn
  have hN := ho.N
  rw [← hn] at hN
  have hp1 := ho.p1
  have hp3 := ho.p3
  have hM := (ho.wd (i := 0) (by rw [← hn]; omega)).2.2
  obtain ⟨M, hMM⟩ : ∃ M, wdB d p c 0 = M := ⟨_, rfl⟩
  rw [hMM] at hM
  have HE : Hid (rebE n (fun _ => wdB d p c 0) p ng (fun i => ((sigP n p (g i) : Nat) : Int)) = 0) := by
    show _ = _
    rw [hMM]
    exact rebE_list hN.2 ⟨hp1, hp3⟩ hN.1 hM (fun i hi => (st_at hN.2 hN.1 (hg i hi)).2.2.2) (fun i j hij hj e => hd i j hij hj (sig_inj hN.2 hN.1 (hg i (by omega)) (hg j hj) e)) hng
  have HAL : Hid (keptAlike n (fun _ => wdB d p c 0) ng (fun i => ((sigP n p (g i) : Nat) : Int)) = true) := by show _ = _; rw [hMM]; exact alike_const hM
  have HTH : Hid (∀ x, hasB ng (fun i => ((sigP n p (g i) : Nat) : Int)) x = hasB (PL n (hasP n p fun r => hasB ng (fun i => ((g i : Nat) : Int)) r)).length (pf n (hasP n p fun r => hasB ng (fun i => ((g i : Nat) : Int)) r)) x) := turn_has hN.2 hN.1 hg
  obtain ⟨hnp, hn8⟩ := hN
  have hmk := make_ints ng (by omega)
  obtain ⟨b0, o0, _, _, _, hac, _, _, _, _⟩ := hc.at (i := 0) (by omega)
  subst hac
  clear h hc hgl hg ho hn hd hMM
  go_enter Try.func34, Try.ntmps34
  go_wp2_with fail
  have hr0 : (w.alloc (.cells (madeCells #[.int .i64 0] ng) 3)).rowIs w.heap.size 3 ng (fun i => if i < 0 then .int .i64 ((sigP n p (g i) : Nat) : Int) else .int .i64 0) := (World.rowIs_made w (.int .i64 0) ng 3).congr fun i _ => by rw [if_neg (by omega)]
  have hx0 : Ext w (w.alloc (.cells (madeCells #[.int .i64 0] ng) 3)) := (Ext.refl w).alloc _ _
  generalize w.alloc (.cells (madeCells #[.int .i64 0] ng) 3) = w1 at *
  clear hmk
  go_loopw [22] (fun i wr => ∃ k : Nat, k ≤ ng ∧ i = .int .i64 k ∧ Ext w wr ∧ wr.rowIs w.heap.size 3 ng (fun i => if i < k then .int .i64 ((sigP n p (g i) : Nat) : Int) else .int .i64 0)) (fun i _ => ng - (intOf i).toNat)
  case atStart => exact ⟨0, Nat.zero_le _, rfl, hx0, hr0⟩
  case round =>
    clear hr0 hx0
    obtain ⟨k, hk, rfl, hx, hr⟩ := hrel
    have HR : Hid (wr.rowIs w.heap.size 3 ng (fun i => if i < k then .int .i64 ((sigP n p (g i) : Nat) : Int) else .int .i64 0)) := hr
    clear hr
    by_cases hlt : k < ng
    · obtain ⟨bg, og, rfl, hcg⟩ := (HG.out.ext hx) k hlt
      obtain ⟨r, hrr⟩ : ∃ r, g k = r := ⟨_, rfl⟩
      have hrn := HGB.out k hlt
      dsimp only at hcg
      rw [hrr] at hcg hrn
      have HTC := fun u : World => turned_any r p n u (by omega) hn8 hrn
      obtain ⟨s, hs⟩ : ∃ s, (r + n - p) % n = s := ⟨_, rfl⟩
      have HS : Hid (sigP n p (g k) = s) := by show _ = _; rw [hrr]; exact hs
      rw [hs] at HTC
      have hct := HR.out.cell hlt
      rw [if_neg (by omega)] at hct
      have hft := HR.out.frozen k
      have HN2 : Hid ((wr.setCell ⟨w.heap.size, k, none⟩ (.int .i64 (s : Nat))).rowIs w.heap.size 3 ng (fun i => if i < k + 1 then .int .i64 ((sigP n p (g i) : Nat) : Int) else .int .i64 0)) := (HR.out.set k _).congr fun i _ => by
        by_cases e : i = k
        · subst e; rw [if_pos rfl, if_pos (by omega), HS.out]
        · rw [if_neg e]
          by_cases l : i < k
          · rw [if_pos l, if_pos (by omega)]
          · rw [if_neg l, if_neg (by omega)]
      have HX : Hid (Ext w (wr.setCell ⟨w.heap.size, k, none⟩ (.int .i64 (s : Nat)))) := hx.setCell (p := ⟨w.heap.size, k, none⟩) (Nat.le_refl _) _
      clear hrr hs
      go_wp2_with (first | (go_at_call 47; refine (HTC _).mono ?_; rintro e w2 ⟨rfl, rfl⟩) | fail)
      go_roundw
      case rel => exact ⟨k + 1, by omega, by go_num, HX.out, HN2.out⟩
      case measure => simp [intOf]; omega
    · obtain rfl : k = ng := by omega
      have HLI : Hid (Ints wr (some ⟨w.heap.size, 0, none⟩) k fun i => ((sigP n p (g i) : Nat) : Int)) := Ints.mk fun i hi => by
        have := HR.out.cell hi
        rw [if_pos hi] at this
        rw [Nat.zero_add]
        exact this
      have HX : Hid (Ext w wr) := hx
      clear HR
      obtain ⟨N, hNN⟩ : ∃ N, N + p = n := ⟨n - p, by omega⟩
      have hNp : n - p = N := by omega
      go_wp2_with fail
      refine (Rebuild_cap a n cn A _ C Z p N (some ⟨w.heap.size, 0, none⟩) k k (fun i => ((sigP n p (g i) : Nat) : Int)) _ hNN ⟨hp1, hp3⟩ (by omega) HAL.out hng (HH.out.ext HX.out) HLI.out HE.out).mono ?_
      rintro e w2 ⟨⟨rb, rc, rA, rC, rfl, hR, hcap⟩, hx2⟩
      have hZ : rebD N p k (fun i => ((sigP n p (g i) : Nat) : Int)) Z = rebC n p (hasP n p fun r => hasB k (fun i => ((g i : Nat) : Int)) r) Z := by
        unfold rebC
        rw [rebD_ext HTH.out, hNp]
      rw [hZ] at hR
      obtain ⟨R, hRR⟩ : ∃ R, rebC n p (hasP n p fun r => hasB k (fun i => ((g i : Nat) : Int)) r) Z = R := ⟨_, rfl⟩
      rw [hRR] at hR
      have HRR : Hid (rebC n p (hasP n p fun r => hasB k (fun i => ((g i : Nat) : Int)) r) Z = R) := hRR
      have HNP : Hid (n - p = N) := hNp
      have HR2 : Hid (Cols w2 rb n rA (fun _ => wdB d p c 0) rC R) := hR
      have HX2 : Hid (Ext w w2) := HX.out.trans hx2
      have hsl : ∀ w, (Instr.slice 51 (.slice (some ⟨b0, o0, none⟩) n cm) (some (.int .i64 (p : Int))) none none).run Try.prog w = .ok (.slice (some ⟨b0, o0 + p * 4, none⟩) N (cm - p)) w := fun w => by
        rw [subE_l (sz := 4) (by omega) Try.underlying51 sizeCol4 _ n cm p (by omega) _ rfl w, hNp, subE_some (by omega)]
      have HCS : Hid (CnS w2 (some ⟨b0, o0 + p * 4, none⟩) d p ad c p N) := by
        show CnS w2 _ d p ad c p N
        rw [← hNp, ← subE_some (sz := 4) (c := cm) (lo := p) (b := b0) (o := o0) (by omega)]
        exact (HC.out.ext HX2.out).sub p (by omega) hcm
      clear hR hRR hZ hx2 hx HLI HTH HE HAL
      have HPN : Hid (p + N = colN d p c) := by show _ = _; rw [← HN.out]; omega
      have hNb : 1 ≤ N ∧ N ≤ 8 := by omega
      have hwsz := HX2.out.size
      have hNn : N ≤ n := by omega
      have HCP : Hid (∀ r, r < n → wdB d p c 0 ≤ rC r) := hcap
      clear hNN hNp hcap
      go_wp2_with fail
      go_loopw [14, 47] (fun v i wr => ∃ j : Nat, j ≤ N ∧ i = .int .i64 j ∧ Ext w2 wr ∧ wr.ownsRow w2.heap.size 5 1 v (offD d p c j) ((List.range (offD d p c j)).map (bvs (catW d p c R j)))) (fun _ i _ => N - (intOf i).toNat)
      case atStart =>
        refine ⟨0, Nat.zero_le _, rfl, Ext.refl _, ?_⟩
        rw [offD_0]
        exact World.ownsRow_nil _ _ _ _
      case round =>
        obtain ⟨j, hj, rfl, hx3, hown⟩ := hrel
        have HO3 : Hid (wr.ownsRow w2.heap.size 5 1 u14 (offD d p c j) ((List.range (offD d p c j)).map (bvs (catW d p c R j)))) := hown
        clear hown
        by_cases hjl : j < N
        · obtain ⟨⟨bR, oR, rfl, hcR⟩, hBR⟩ := (HR2.out.ext hx3) j (by omega)
          obtain ⟨bc, oc, x, y, z, hac, h0, h1, h2, h3⟩ := (HCS.out.ext hx3).at hjl
          cases hac
          obtain ⟨q, hq⟩ : ∃ q, cntC d p c (p + j) = q := ⟨_, rfl⟩
          have hqb := HO.out.cnt (i := p + j) (by rw [← HPN.out]; omega)
          have HW : Hid (wdB d p c (p + j) = 128 * q) := by show _ = _; unfold wdB; rw [hq]
          have hwd0 := HO.out.wd (i := p + j) (by rw [← HPN.out]; omega)
          rw [HW.out] at hwd0
          rw [hq] at hqb h2
          have hof := HO.out.offs (i := j) (by rw [← HPN.out]; omega)
          rw [HW.out] at hof
          have hc32 := HO.out.c32
          have hbnd : 1 ≤ q ∧ q ≤ 32 ∧ 128 * q ≤ wdB d p c 0 ∧ wdB d p c 0 ≤ 4096 := ⟨hqb.1, by omega, hwd0.2.1, hwd0.2.2⟩
          obtain ⟨M0, hM0⟩ : ∃ M0, wdB d p c 0 = M0 := ⟨_, rfl⟩
          have hcap := HCP.out j (by omega)
          rw [hM0] at hcR hBR hbnd hcap
          obtain ⟨cr, hcr⟩ : ∃ cr, rC j = cr := ⟨_, rfl⟩
          rw [hcr] at hcR hcap
          have HB1 : Hid (Byts wr (rA j) M0 (R j)) := hBR
          clear hBR hcr
          obtain ⟨o, hoq⟩ : ∃ o, offD d p c j = o := ⟨_, rfl⟩
          have HOQ : Hid (offD d p c j = o) := hoq
          rw [hoq] at hof
          have hob : o ≤ 4096 := by omega
          clear hq hqb hwd0 hof hc32 hoq hM0
          have hal := (Ext.refl wr).alloc #[.int .i64 x, .int .i64 y, .int .i64 q, .bool z] 59
          have f0 : (wr.alloc (.cells #[.int .i64 x, .int .i64 y, .int .i64 q, .bool z] 59)).cell? ⟨wr.heap.size, 0, none⟩ = some (.int .i64 x) := by rw [new_cell]; rfl
          have f1 : (wr.alloc (.cells #[.int .i64 x, .int .i64 y, .int .i64 q, .bool z] 59)).cell? ⟨wr.heap.size, 1, none⟩ = some (.int .i64 y) := by rw [new_cell]; rfl
          have f2 : (wr.alloc (.cells #[.int .i64 x, .int .i64 y, .int .i64 q, .bool z] 59)).cell? ⟨wr.heap.size, 2, none⟩ = some (.int .i64 q) := by rw [new_cell]; rfl
          have f3 : (wr.alloc (.cells #[.int .i64 x, .int .i64 y, .int .i64 q, .bool z] 59)).cell? ⟨wr.heap.size, 3, none⟩ = some (.bool z) := by rw [new_cell]; rfl
          have hcR3 := hal.keeps hcR
          go_upto_region 12 with fail
          generalize wr.alloc (.cells #[.int .i64 x, .int .i64 y, .int .i64 q, .bool z] 59) = w3 at *
          have hsl2 : ∀ w, (Instr.slice 22 (.slice (rA j) M0 cr) none (some (.int .i64 (128 * (q : Int)))) none).run Try.prog w = .ok (.slice (subA (rA j) cr 0) (128 * q) cr) w := fun w => sub_h Try.underlying22 sizeB1 (rA j) M0 cr (128 * q) (by omega) _ (by omega) w
          have hsl3 : ∀ w, (Instr.slice 22 (.slice (rA j) M0 cr) none (some (.int .i64 ((128 * q : Nat) : Int))) none).run Try.prog w = .ok (.slice (subA (rA j) cr 0) (128 * q) cr) w := fun w => sub_h Try.underlying22 sizeB1 (rA j) M0 cr (128 * q) (by omega) _ rfl w
          have d0 : ∀ u : Gr w3, u.w'.cell? ⟨wr.heap.size, 0, none⟩ = some (.int .i64 x) := fun u => u.ext.keeps f0
          have d1 : ∀ u : Gr w3, u.w'.cell? ⟨wr.heap.size, 1, none⟩ = some (.int .i64 y) := fun u => u.ext.keeps f1
          have d2 : ∀ u : Gr w3, u.w'.cell? ⟨wr.heap.size, 2, none⟩ = some (.int .i64 q) := fun u => u.ext.keeps f2
          have d3 : ∀ u : Gr w3, u.w'.cell? ⟨wr.heap.size, 3, none⟩ = some (.bool z) := fun u => u.ext.keeps f3
          have d4 : ∀ u : Gr w3, u.w'.cell? ⟨bR, oR + j, none⟩ = some (.slice (rA j) M0 cr) := fun u => u.ext.keeps hcR3
          have hjn : j < n := by omega
          have hjni : (j : Int) < (n : Int) := by omega
          have HX3 : Hid (Ext wr w3) := hal
          have HX23 : Hid (Ext w2 wr) := hx3
          clear f0 f1 f2 f3 hcR hcR3 h0 h1 h2 h3 hal hx3
          refine wp_region_grows 8 (by kernel_rfl) (by kernel_rfl) (fun hne => ?_)
          simp only [List.take_succ_cons, List.take_zero, List.drop_succ_cons, List.drop_zero]
          repeat (go_big_quiet_step (first | (go_at_call 39; exact Calls.grown (width_any x y _ q z rfl _ (by omega)))))
          refine wpQuiet_nil ?_
          intro w4 hw4
          obtain ⟨y4, rfl⟩ := hw4
          have HXY : Hid (Ext wr y4.w') := HX3.out.trans y4.ext
          have HSB : Hid (∀ i, i < 128 * q → ∃ b o, subA (rA j) cr 0 = some ⟨b, o, none⟩ ∧ y4.w'.cell? ⟨b, o + i, none⟩ = some (bvs (R j) i)) := fun i hi => by
            obtain ⟨b1, o1, e1, e2⟩ := (HB1.out.ext HXY.out) i (by omega)
            refine ⟨b1, o1 + 0, by rw [e1, subA_some (by omega)], ?_⟩
            rw [Nat.add_zero]
            exact e2
          have HO4 : Hid (y4.w'.ownsRow w2.heap.size 5 1 u14 o ((List.range o).map (bvs (catW d p c R j)))) := by
            have := own_ext HO3.out HXY.out
            rw [HOQ.out] at this
            exact this
          have hs4 : w2.heap.size ≤ y4.w'.heap.size := Nat.le_trans HX23.out.size HXY.out.size
          clear d0 d1 d2 d3 d4
          go_wp2_with (first | (at_builtin; refine append_vals y4.w' rfl (.tmp 52) (.tmp 59) 22 rfl w2.heap.size 5 (.int .u8 0) 1 Try.underlying22 infoByte rfl u14 o _ rfl HO4.out (subA (rA j) cr 0) (128 * q) cr (bvs (R j)) rfl HSB.out (fun _ _ => rfl) (by omega) (by omega) hs4 ?_) | fail)
          intro v5 w5 hown5 hgrow5
          have HN5 : Hid (Ext w2 w5 ∧ w5.ownsRow w2.heap.size 5 1 v5 (offD d p c (j + 1)) ((List.range (offD d p c (j + 1))).map (bvs (catW d p c R (j + 1))))) := by
            refine ⟨?_, ?_⟩
            · exact (HX23.out.trans HXY.out).grow hgrow5 fun q hq => (own_ge HO4.out hq).1
            · rw [← catW_map, offD_s, HW.out, HOQ.out]
              exact hown5
          clear hown5 hgrow5
          go_wp2_with fail
          go_roundw
          case rel => exact ⟨j + 1, by omega, by go_num, HN5.out.1, HN5.out.2⟩
          case measure => simp [intOf]; omega
        · obtain rfl : j = N := by omega
          have HOF : Hid (offD d p c j = 128 * c) := by
            show _ = _
            rw [show j = colN d p c - p by rw [← HPN.out]; omega]
            exact HO.out.off
          have hxe : Ext w wr := HX2.out.trans hx3
          go_wp2_with fail
          go_ret
          rw [HRR.out, HNP.out]
          refine ⟨⟨_, rfl, ?_⟩, hxe⟩
          have := HO3.out
          rw [HOF.out] at this
          exact own_mono this hwsz
end Go.Proofs.Ythgbfakmkdifbaa
