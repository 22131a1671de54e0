/-
  Whatever columns of a block are lost, as many as parity, the data are told: at every block, numbers and list of places; no condition.
-/
import Derived.Test.YthgbfakmkdifbaaRows
import Derived.WalkKit
import Derived.ProofKit
import Derived.OpenShut
import Derived.ChangeOld
import Derived.Below
import Derived.BigQuiet
import Derived.Deep.CutRange
import Derived.Deep.QuietTactic
import Derived.Deep.RegionLaw
import Derived.Test.YthgbfakmkdifbaaOpn
import Derived.Test.YthgbfakmkdifbaaChecked
import Derived.Test.YthgbfakmkdifbaaStMend
import Derived.Test.YthgbfakmkdifbaaGeo2
import Derived.Test.YthgbfakmkdifbaaKeepSev
import Derived.Test.YthgbfakmkdifbaaSameB
namespace Go.Proofs.Ythgbfakmkdifbaa.gatherLost
open Go.ChangeShapes Go.WideShapes Go.ChangeAt Go.RowKit Go.Deep E
set_option linter.unusedVariables false
theorem fitN_of {N : Nat} {T : Nat → Bool} {L W : Nat → Nat} (h : ∀ r, r < N → T r = false → L r = W r) : fitN N T L W = true := by
  refine fitN_true fun r hr => ?_
  unfold fitAt
  cases e : T r with
  | true => simp
  | false => simp [h r hr e]
set_option maxRecDepth 100000 in
set_option maxHeartbeats 40000000 in
theorem walk (a0 : Int) (a1 : Int) (a2 : Int) (a3 : Option Addr) (n3 c3 : Nat) (f3 : Nat → E) (a4 : Option Addr) (n4 c4 : Nat) (f4 : Nat → Int) (w : World) (w0 : -9223372036854775808 ≤ a0 ∧ a0 ≤ 9223372036854775807) (w1 : -9223372036854775808 ≤ a1 ∧ a1 ≤ 9223372036854775807) (w2 : -9223372036854775808 ≤ a2 ∧ a2 ≤ 9223372036854775807) (h3 : Byts w a3 n3 f3) (b3 : n3 ≤ c3 ∧ c3 ≤ 9223372036854775807) (z3 : c3 * 1 ≤ 140737488351232) (h4 : Ints w a4 n4 f4) (b4 : n4 ≤ 9223372036854775807 ∧ ∀ i, i < n4 → -9223372036854775808 ≤ f4 i ∧ f4 i ≤ 9223372036854775807) (z4 : n4 ≤ c4 ∧ c4 * 8 ≤ 140737488351232) :
    Calls Try.prog 4 #[.int .i64 a0, .int .i64 a1, .int .i64 a2, .slice a3 n3 c3, .slice a4 n4 c4] w fun e w' => e = .returned (.bool true) ∧ Ext w w' := by
  have HB : Hid (Byts w a3 n3 f3) := h3
  have HL : Hid (Ints w a4 n4 f4) := h4
  have HLB : Hid (∀ i, i < n4 → -9223372036854775808 ≤ f4 i ∧ f4 i ≤ 9223372036854775807) := b4.2
  have hn4 := b4.1
  obtain ⟨b31, b32⟩ := b3
  obtain ⟨hlc, z4'⟩ := z4
  obtain ⟨d, p, hd1, hd2, hp1, hp2, hp3, HS⟩ := Shape_nat a0 a1 w0 w1
  obtain ⟨X, hX, hX1⟩ := picked_is a2 60000 (by omega)
  have HPK : Hid (∀ w, Calls Try.prog 13 #[.int .i64 a2, .int .i64 60000] w fun e w' => e = .returned (.int .i64 X) ∧ w' = w) := fun w => Picked_bd a2 60000 X w (by omega) (by omega) w2 hX
  have HSH : Hid (∀ w, Calls Try.prog 12 #[.int .i64 a0, .int .i64 a1] w fun e w' => e = .returned (.tuple #[.int .i64 (d : Nat), .int .i64 (p : Nat)]) ∧ w' = w) := HS
  clear h3 h4 b4 HS hX
  go_enter Try.func4, Try.ntmps4
  go_wp2_with fail
  refine (HSH.out _).mono ?_
  rintro e v1 ⟨rfl, rfl⟩
  go_wp2_with fail
  refine (HPK.out _).mono ?_
  rintro e v2 ⟨rfl, rfl⟩
  go_wp2_with fail
  refine (Block_any a3 n3 c3 f3 _ b31 b32 HB.out).mono ?_
  rintro e v3 ⟨⟨vb, rfl, hvb⟩, hx3⟩
  obtain ⟨ab, cb, rfl, hby⟩ := own_byts hvb
  obtain ⟨m, hm⟩ : ∃ m, blkN n3 = m := ⟨_, rfl⟩
  obtain ⟨B, hBB⟩ : ∃ B, blkF n3 f3 = B := ⟨_, rfl⟩
  have hmb := blkN_bd n3
  rw [hm] at hmb hvb hby ⊢
  rw [hBB] at hby
  have HBY : Hid (Byts v3 ab m B) := hby
  have HXa : Hid (Ext v2 v3) := hx3
  have hszm : szOk m = true := (szOk_iff m).2 (by omega)
  have hso : StOk d p (secs m) := ⟨by omega, by omega, by omega, by omega, by omega, (secs_bd hszm).1, (secs_bd hszm).2.1⟩
  have HSO : Hid (StOk d p (secs m) ∧ szOk m = true) := ⟨hso, hszm⟩
  have hNb := hso.N
  obtain ⟨N, hNN⟩ : ∃ N, colN d p (secs m) = N := ⟨_, rfl⟩
  rw [hNN] at hNb
  have HN : Hid (colN d p (secs m) = N) := hNN
  clear hvb hby hx3 hm hBB hszm hso hNN HPK HSH
  go_wp2_with fail
  refine (laid_any d p X m ab cb B v3 HSO.out.1 (by omega) HSO.out.2 HBY.out).mono ?_
  rintro e v4 ⟨vl, A, C, rfl, wm, hxa, hxb, hbytes, hown⟩
  obtain ⟨s, hs⟩ : ∃ s : Nat → Int, (fun i => moreV (128 * secs m) (fun _ => 0) (padZ m B) i) = s := ⟨_, rfl⟩
  have hsv : sumVs (secs m) (padZ m B) = .agg #[.int .i64 (s 0), .int .i64 (s 1), .int .i64 (s 2), .int .i64 (s 3)] := by rw [← hs]; rfl
  rw [hsv]
  rw [HN.out] at hown hbytes
  obtain ⟨g, cap, rfl, hg1, hg2⟩ := own_some hown (by omega)
  have HXm : Hid (Ext v2 wm) := HXa.out.trans hxa
  have HXb : Hid (Ext wm v4) := hxb
  have HBS : Hid (∀ r, r < N → Byts wm (A r) (wdB d p (secs m) r) (layF d p (secs m) m B r)) := hbytes
  have HOW : Hid (v4.ownsRow wm.heap.size 42 2 (.slice (some ⟨g, 0, none⟩) N cap) N ((List.range N).map (pcC A (wdB d p (secs m)) C fun _ => false)).flatten) := hown
  have HX4 : Hid (Ext v2 v4) := HXm.out.trans hxb
  have HSS : Hid (∀ i, moreV (128 * secs m) (fun _ => 0) (padZ m B) i = s i) := fun i => by rw [← hs]
  have HBYm : Hid (Byts wm ab m B) := HBY.out.ext hxa
  clear hxa hxb hbytes hown hs hsv HBY HXa
  go_upto_region 7 with fail
  obtain ⟨v5, hv5⟩ : ∃ v5, v4.alloc (.cells #[.int .i64 (s 0), .int .i64 (s 1), .int .i64 (s 2), .int .i64 (s 3)] 37) = v5 := ⟨_, rfl⟩
  have hx45 : Ext v4 v5 := by rw [← hv5]; exact (Ext.refl v4).alloc _ _
  have HX45 : Hid (Ext v4 v5) := hx45
  have HBS5 : Hid (v5.heap[v4.heap.size]? = some (.cells #[.int .i64 (s 0), .int .i64 (s 1), .int .i64 (s 2), .int .i64 (s 3)] 37 (0, 0))) := by show _ = _; rw [← hv5]; exact heap_alloc_new _ _
  rw [hv5]
  clear hv5
  clear hx45
  go_wp2_with fail
  refine (Several_any a4 n4 c4 f4 p N _ (by omega) (by omega) (by omega) (HL.out.ext (HX4.out.trans HX45.out)) HLB.out).mono ?_
  rintro e v11 ⟨has, vg, rfl, hownG, hgl, hall, hx11⟩
  obtain ⟨ng, hlen⟩ : ∃ ng, (PL N has).length = ng := ⟨_, rfl⟩
  have HLN : Hid ((PL N has).length = ng) := hlen
  rw [hlen] at hgl
  have HGL : Hid (ng ≤ p) := hgl
  have hg10 : g < v5.heap.size := Nat.lt_of_lt_of_le hg2 HX45.out.size
  obtain ⟨ag, cg, rfl, hGx⟩ := own_places hownG
  clear hGx
  have HGI : Hid (∀ W, Wro (· = g) v11 W → Ints W ag ng fun i => (((PL N has).getD i 0 : Nat) : Int)) := fun W hw => by
    have h1 := own_wro2 hownG hw fun b hb q => by
      have := (own_ge hownG q).1
      omega
    obtain ⟨a', c', e, h2⟩ := own_places h1
    cases e
    rw [← hlen]
    exact h2
  have HO11 : Hid (v11.ownsRow wm.heap.size 42 2 (.slice (some ⟨g, 0, none⟩) N cap) N ((List.range N).map (pcC A (wdB d p (secs m)) C fun _ => false)).flatten) := own_ext HOW.out (HX45.out.trans hx11)
  have HX511 : Hid (Ext v5 v11) := hx11
  rw [hlen]
  clear hownG hall hlen hx11 HOW HLB
  go_wp2_with fail
  go_loopw [19] (fun i wr => ∃ k : Nat, k ≤ ng ∧ i = .int .i64 k ∧ Wro (· = g) v11 wr ∧ wr.ownsRow wm.heap.size 42 2 (.slice (some ⟨g, 0, none⟩) N cap) N ((List.range N).map (pcC A (wdB d p (secs m)) C (frst (PL N has) k))).flatten) (fun i _ => ng - (intOf i).toNat)
  case atStart => exact ⟨0, Nat.zero_le _, rfl, Wro.refl _ _, by rw [frst_0]; exact HO11.out⟩
  case round =>
    obtain ⟨k, hk, rfl, hw, hown⟩ := hrel
    have HO : Hid (wr.ownsRow wm.heap.size 42 2 (.slice (some ⟨g, 0, none⟩) N cap) N ((List.range N).map (pcC A (wdB d p (secs m)) C (frst (PL N has) k))).flatten) := hown
    have HW : Hid (Wro (· = g) v11 wr) := hw
    clear hown hw
    by_cases hkn : k < ng
    · have i1 : (k : Int) < (ng : Int) := by omega
      obtain ⟨bb, oo, rfl, hck0⟩ := HGI.out wr HW.out k hkn
      obtain ⟨r, hr⟩ : ∃ r, (PL N has).getD k 0 = r := ⟨_, rfl⟩
      have hck : wr.cell? ⟨bb, oo + k, none⟩ = some (.int .i64 (((PL N has).getD k 0 : Nat) : Int)) := hck0
      clear hck0
      rw [hr] at hck
      have hrN : r < N := by
        rw [← hr, List.getD_eq_getElem?_getD, List.getElem?_eq_getElem (by rw [HLN.out]; exact hkn)]
        exact (PL_mem.1 (List.getElem_mem _)).1
      obtain ⟨x, y, hxy, hc0, hc1, hf0, hf1⟩ := pc_cells HO.out hrN
      clear hxy
      have hri : (r : Int) < (N : Int) := by omega
      have HR : Hid ((PL N has).getD k 0 = r) := hr
      clear hr
      clear z3 hn4 b31 b32 hlc z4' hX1 hg1 hg2 hg10 hd1 hd2 hmb w0 w1 w2
      have HRN : Hid (r < N) := hrN
      clear hrN
      go_wp2_with fail
      go_roundw
      case rel => exact ⟨k + 1, by omega, by go_num, (HW.out.setCell (p := ⟨g, r * 2, none⟩) rfl _).setCell (p := ⟨g, r * 2 + 1, none⟩) rfl _, by rw [frst_s _ _ (by rw [HLN.out]; omega), HR.out]; exact pc_lose HO.out HRN.out⟩
      case measure => simp [intOf]; omega
    · obtain rfl : k = ng := by omega
      have hxw : Ext wm wr := wro_ext ((HXb.out.trans HX45.out).trans HX511.out) HW.out hg1
      have hPC := pc_pcs (F := layF d p (secs m) m B) HO.out fun r hr => (HBS.out r hr).ext hxw
      have hPC2 : Pcs wr (some ⟨g, 0, none⟩) N has (fun r => if frst (PL N has) k r then none else A r) (fun r => if frst (PL N has) k r then 0 else wdB d p (secs m) r) (fun r => if frst (PL N has) k r then 0 else C r) (layF d p (secs m) m B) := fun r hr => by
        have := hPC r hr
        have e : frst (PL N has) k r = has r := by rw [← HLN.out]; exact frst_PL N has hr
        rw [e] at this
        exact this
      have HPC : Hid (Pcs wr (some ⟨g, 0, none⟩) N has (fun r => if frst (PL N has) k r then none else A r) (fun r => if frst (PL N has) k r then 0 else wdB d p (secs m) r) (fun r => if frst (PL N has) k r then 0 else C r) (layF d p (secs m) m B)) := hPC2
      have hb5 : wr.heap[v4.heap.size]? = some (.cells #[.int .i64 (s 0), .int .i64 (s 1), .int .i64 (s 2), .int .i64 (s 3)] 37 (0, 0)) := (HW.out.block _ (by have := (Array.getElem?_eq_some_iff.1 (extBlk HX511.out HBS5.out)).1; exact this) (fun q => by omega)).trans (extBlk HX511.out HBS5.out)
      have t0 : wr.cell? ⟨v4.heap.size, 0, none⟩ = some (.int .i64 (s 0)) := by rw [cell_of_row _ _ 0 _ _ _ hb5]; rfl
      have t1 : wr.cell? ⟨v4.heap.size, 1, none⟩ = some (.int .i64 (s 1)) := by rw [cell_of_row _ _ 1 _ _ _ hb5]; rfl
      have t2 : wr.cell? ⟨v4.heap.size, 2, none⟩ = some (.int .i64 (s 2)) := by rw [cell_of_row _ _ 2 _ _ _ hb5]; rfl
      have t3 : wr.cell? ⟨v4.heap.size, 3, none⟩ = some (.int .i64 (s 3)) := by rw [cell_of_row _ _ 3 _ _ _ hb5]; rfl
      have HXE : Hid (Ext v2 wr) := HXm.out.trans hxw
      have HXW : Hid (Ext wm wr) := hxw
      have HG2 : Hid (g < v4.heap.size) := hg2
      clear hb5 hPC hPC2 hxw z3 hn4 b31 b32 hlc z4' hg1 hg2 hg10 hgl w0 w1 w2 hk hkn
      go_wp2_with fail
      have hFIT : fitN N has (fun r => if frst (PL N has) k r then 0 else wdB d p (secs m) r) (wdB d p (secs m)) = true := fitN_of fun r hr e => by
        have e2 : frst (PL N has) k r = has r := by rw [← HLN.out]; exact frst_PL N has hr
        rw [e2, e]
        simp
      have hLL : ∀ r, r < N → (if frst (PL N has) k r then 0 else wdB d p (secs m) r) ≤ 9223372036854775807 := fun r hr => by
        have := (HSO.out.1.wd (i := r) (by rw [HN.out]; exact hr)).2
        split <;> omega
      have hPT : (plcs N has true).length ≤ p := by
        have : plcs N has true = PL N has := PL_same fun x _ => by simp
        rw [this, HLN.out]
        exact HGL.out
      refine (Gather_ok d p X m (some ⟨g, 0, none⟩) N cap has _ _ _ _ s wr HSO.out.1 (by omega) HSO.out.2 HN.out.symm hFIT hPT hLL HPC.out).mono ?_
      rintro e v12 ⟨hres, hx12⟩
      unfold GatRes at hres
      have hgf := mend_sum (n := m) (B := B) (T := has) (L := fun r => if frst (PL N has) k r then 0 else wdB d p (secs m) r) HSO.out.1 (by rw [HN.out, HLN.out]; exact HGL.out) (fun r hr e => by
        rw [HN.out] at hr
        have e2 : frst (PL N has) k r = has r := by rw [← HLN.out]; exact frst_PL N has hr
        rw [e2, e]
        simp) HSS.out
      rw [hgf] at hres
      obtain ⟨ad, ab', cb', rfl, hby, _⟩ := hres
      have HBD : Hid (Byts v12 ad m B) := fun i hi => by
        obtain ⟨b, o, h1, h2⟩ := hby i hi
        refine ⟨b, o, h1, ?_⟩
        rw [h2, mend_none HSO.out.1 (by rw [HN.out, HLN.out]; exact HGL.out) (fun r hr e => by
          rw [HN.out] at hr
          have e2 : frst (PL N has) k r = has r := by rw [← HLN.out]; exact frst_PL N has hr
          rw [e2, e]
          simp) (Nat.lt_of_lt_of_le hi (secs_bd HSO.out.2).2.2.1)]
        unfold padZ
        rw [if_pos hi]
      clear hby hgf hPT hLL hFIT
      have hx12' : Hid (Ext wr v12) := hx12
      clear hx12
      go_wp2_with fail
      refine (sameBytesK_any ad ab m m cb B B v12 (by omega) HBD.out (HBYm.out.ext (HXW.out.trans hx12'.out)) (fun i _ => rfl)).mono ?_
      rintro e v13 ⟨rfl, hx13⟩
      go_wp2_with fail
      go_ret
      exact ⟨rfl, (HXE.out.trans hx12'.out).trans hx13⟩
end Go.Proofs.Ythgbfakmkdifbaa.gatherLost
