/-
  quicksetkeep.Block and quicksetkeep.padded: bytes in new memory.
-/
import Derived.Test.YthgbfakmkdifbaaKeepFlet
import Derived.Test.YthgbfakmkdifbaaStp
import Derived.RangeFuncNested
import Derived.RangeFuncBound
import Derived.RangeFuncCalls
import Derived.RangeFuncLeaves
import Derived.Shelf.Abstract
import Derived.Shelf.RegionOpen
import Derived.WalkKit
import Derived.OwnWalkIn
import Derived.TacticsInMore
import Derived.LoopNIn
import Derived.LoopIn
import Derived.BigQuiet
import Derived.Deep.CutRange
import Derived.Deep.QuietTactic
import Derived.Deep.RegionLaw
import Derived.Test.YthgbfakmkdifbaaChecked
import Derived.Test.YthgbfakmkdifbaaSts
import Derived.Test.YthgbfakmkdifbaaFlets
import Derived.Test.YthgbfakmkdifbaaRegs
import Derived.Sort.CutIn
import Derived.Test.YthgbfakmkdifbaaEls
namespace Go.Proofs.Ythgbfakmkdifbaa
open Go.RowKit Go.Deep E
def blkN (n : Nat) : Nat := if n = 0 then 1 else if n ≤ 1000 then n else 1000
def blkF (n : Nat) (f : Nat → E) (i : Nat) : E := if n = 0 then of 7 else f i
theorem blkN_bd (n : Nat) : 1 ≤ blkN n ∧ blkN n ≤ 1000 := by
  unfold blkN
  split
  · omega
  · split <;> omega
set_option maxRecDepth 100000 in
set_option maxHeartbeats 800000 in
theorem Block_any (a : Option Addr) (n c : Nat) (f : Nat → E) (w : World) (hn : n ≤ c) (hc : c ≤ 9223372036854775807) (h : Byts w a n f) :
    Calls Try.prog 14 #[.slice a n c, .int .i64 1000] w fun e w' => (∃ v, e = .returned v ∧ w'.ownsRow w.heap.size 5 1 v (blkN n) ((List.range (blkN n)).map (bvs (blkF n f)))) ∧ Ext w w' := by
  have HB : Hid (Byts w a n f) := h
  clear h
  rcases Nat.eq_zero_or_pos n with e0 | h0
  · subst e0
    go_enter Try.func14, Try.ntmps14
    go_wp2_with fail
    go_ret
    have hr : (w.alloc (.cells #[.int .u8 7] 5)).rowIs w.heap.size 5 1 (bvs (blkF 0 f)) := ⟨_, heap_alloc_new _ _, rfl, fun i hi => by
      obtain rfl : i = 0 := by omega
      rfl⟩
    exact ⟨⟨_, rfl, own_of_row hr (Nat.le_refl _) (by decide)⟩, (Ext.refl w).alloc _ _⟩
  · have hz : ¬ (n : Int) = 0 := by omega
    obtain ⟨m, hm⟩ : ∃ m, blkN n = m := ⟨_, rfl⟩
    have hmn : m ≤ n ∧ m ≤ 1000 ∧ min (n : Int) 1000 = m := by
      rw [← hm]
      unfold blkN
      rw [if_neg (by omega)]
      split <;> omega
    rw [hm]
    have HS : Hid (Byts w (subA a c 0) m f) := by
      have := HB.out.sub 0 m (by omega) (a' := subA a c 0) fun h0 b o ha => by rw [ha, subA_some (by omega)]
      exact this.congr fun i _ => by rw [Nat.zero_add]
    have HF : Hid (∀ i, bvs (blkF n f) i = bvs f i) := fun i => by unfold bvs blkF; rw [if_neg (by omega)]
    obtain ⟨hm1, hm2, hmi⟩ := hmn
    go_enter Try.func14, Try.ntmps14
    by_cases hle : n ≤ 1000
    · have hi : (n : Int) ≤ 1000 := by omega
      have hmn : m = n := by omega
      subst hmn
      have hsl := sub_h (P := Try.prog) Try.underlying22 size8 a m c m (by omega) (m : Int) rfl
      go_wp2_with (first | (at_builtin; refine append_vals w rfl (.const (.slice none 0 0)) (.tmp 14) 22 rfl w.heap.size 5 (.int .u8 0) 1 Try.underlying22 infoByte rfl (.slice none 0 0) 0 [] rfl (World.ownsRow_nil _ _ _ _) (subA a c 0) m c (bvs f) rfl HS.out (fun _ _ => rfl) (by omega) (by omega) (Nat.le_refl _) ?_) | go_in)
      intro v' w5 hown' hgrow
      have hx5 : Ext w w5 := (Ext.refl w).grow hgrow fun _ hk => by cases hk
      go_wp2_with fail
      go_ret
      exact ⟨⟨_, rfl, by rw [List.map_congr_left fun i _ => HF.out i]; simpa using hown'⟩, hx5⟩
    · have hi : ¬ (n : Int) ≤ 1000 := by omega
      have hmn : m = 1000 := by omega
      subst hmn
      have hsl := sub_h (P := Try.prog) Try.underlying22 size8 a n c 1000 (by omega) (1000 : Int) rfl
      go_wp2_with (first | (at_builtin; refine append_vals w rfl (.const (.slice none 0 0)) (.tmp 14) 22 rfl w.heap.size 5 (.int .u8 0) 1 Try.underlying22 infoByte rfl (.slice none 0 0) 0 [] rfl (World.ownsRow_nil _ _ _ _) (subA a c 0) 1000 c (bvs f) rfl HS.out (fun _ _ => rfl) (by omega) (by omega) (Nat.le_refl _) ?_) | go_in)
      intro v' w5 hown' hgrow
      have hx5 : Ext w w5 := (Ext.refl w).grow hgrow fun _ hk => by cases hk
      go_wp2_with fail
      go_ret
      exact ⟨⟨_, rfl, by rw [List.map_congr_left fun i _ => HF.out i]; simpa using hown'⟩, hx5⟩
def lenS : Value → Nat
  | .slice _ n _ => n
  | _ => 0
theorem padZ_out (n m : Nat) (f : Nat → E) (h : n ≤ m) : bvs (padZ n f) m = .int .u8 0 := by
  unfold bvs padZ
  rw [if_neg (by omega)]
  rfl
set_option maxRecDepth 100000 in
set_option maxHeartbeats 800000 in
theorem padded_any (a : Option Addr) (n c : Nat) (f : Nat → E) (w : World) (hn : n ≤ 4096) (h : Byts w a n f) :
    Calls Try.prog 20 #[.slice a n c] w fun e w' => (∃ v, e = .returned v ∧ w'.ownsRow w.heap.size 5 1 v (128 * secs n) ((List.range (128 * secs n)).map (bvs (padZ n f)))) ∧ Ext w w' := by
  have HB : Hid (Byts w a n f) := h
  clear h
  go_enter Try.func20, Try.ntmps20
  go_wp2_with (first | (at_builtin; refine append_vals w rfl (.const (.slice none 0 0)) (.tmp 4) 22 rfl w.heap.size 5 (.int .u8 0) 1 Try.underlying22 infoByte rfl (.slice none 0 0) 0 [] rfl (World.ownsRow_nil _ _ _ _) a n c (bvs f) rfl HB.out (fun _ _ => rfl) (by omega) (by omega) (Nat.le_refl _) ?_) | go_in)
  intro v' w5 hown' hgrow
  have HX5 : Hid (Ext w w5) := (Ext.refl w).grow hgrow fun _ hk => by cases hk
  have HO5 : Hid (w5.ownsRow w.heap.size 5 1 v' n ((List.range n).map (bvs (padZ n f)))) := by
    have e : (List.range n).map (bvs (padZ n f)) = (List.range n).map (bvs f) := List.map_congr_left fun i hi => by
      have := List.mem_range.1 hi
      unfold bvs padZ
      rw [if_pos this]
    show w5.ownsRow _ _ _ _ _ _
    rw [e]
    simpa using hown'
  clear hown' hgrow
  go_wp2_with fail
  go_loopw [3] (fun v wr => ∃ k : Nat, n ≤ k ∧ k ≤ 128 * secs n ∧ Ext w wr ∧ wr.ownsRow w.heap.size 5 1 v k ((List.range k).map (bvs (padZ n f)))) (fun v _ => 128 * secs n - lenS v)
  case atStart => exact ⟨n, Nat.le_refl _, by unfold secs; omega, HX5.out, HO5.out⟩
  case round =>
    obtain ⟨k, hk1, hk2, hxr, hown⟩ := hrel
    obtain ⟨ak, ck, rfl, _⟩ := own_slice hown
    have HO : Hid (wr.ownsRow w.heap.size 5 1 (.slice ak k ck) k ((List.range k).map (bvs (padZ n f)))) := hown
    clear hown
    have hsb : 128 * secs n < n + 128 ∧ n ≤ 128 * secs n ∧ (128 * secs n) % 128 = 0 := by unfold secs; omega
    have hsz := hxr.size
    have htm : (k : Int).tmod 128 = ((k % 128 : Nat) : Int) := by rw [Int.tmod_eq_emod_of_nonneg (by omega)]; omega
    by_cases hlt : k < 128 * secs n
    · have hne : ¬ ((k % 128 : Nat) : Int) = 0 := by omega
      go_wp2_with (first | (at_builtin; refine append_one wr rfl _ _ 22 rfl w.heap.size 5 (.int .u8 0) 1 Try.underlying22 infoByte rfl (.slice ak k ck) k _ rfl HO.out (.int .u8 0) 1 rfl rfl (by omega) (by omega) hsz ?_) | go_in)
      intro v' w5 hown' hgrow
      have HN : Hid (Ext w w5 ∧ w5.ownsRow w.heap.size 5 1 v' (k + 1) ((List.range (k + 1)).map (bvs (padZ n f)))) := by
        refine ⟨(hxr.alloc _ _).grow hgrow fun b hb => (own_ge HO.out hb).1, ?_⟩
        rw [← range_bvs]
        have := padZ_out n k f hk1
        unfold bvs at this
        rw [this]
        exact hown'
      clear hown' hgrow
      obtain ⟨a9, c9, rfl, _⟩ := own_slice HN.out.2
      go_wp2_with fail
      go_roundw
      case rel => exact ⟨k + 1, by omega, by omega, HN.out.1, HN.out.2⟩
      case measure => simp [lenS]; omega
    · obtain rfl : k = 128 * secs n := by omega
      have hne : (((128 * secs n) % 128 : Nat) : Int) = 0 := by omega
      go_wp2_with fail
      go_ret
      exact ⟨⟨_, rfl, HO.out⟩, hxr⟩
end Go.Proofs.Ythgbfakmkdifbaa
/-
  stripe.Gather where its columns fit.
-/
namespace Go.Proofs.Ythgbfakmkdifbaa
open Go.RowKit Go.Shelf Go.Deep E
attribute [local go_sem] Oper.semAt_some
set_option maxRecDepth 100000 in
set_option maxHeartbeats 8000000 in
theorem Gather_ok (d p a n : Nat) (ap : Option Addr) (np cp : Nat) (T : Nat → Bool) (A : Nat → Option Addr) (L C : Nat → Nat) (F : Nat → Nat → E) (s : Nat → Int) (w : World) (ho : StOk d p (secs n)) (ha : a ≤ 65536) (hs : szOk n = true) (hnp : np = colN d p (secs n))
    (hf : fitN np T L (wdB d p (secs n)) = true) (hl : (plcs np T true).length ≤ p) (hL : ∀ r, r < np → L r ≤ 9223372036854775807) (h : Pcs w ap np T A L C F) :
    Calls Try.prog 17 #[.int .i64 d, .int .i64 p, .int .i64 a, .int .i64 n, .slice ap np cp, .agg #[.int .i64 (s 0), .int .i64 (s 1), .int .i64 (s 2), .int .i64 (s 3)]] w fun e w' => GatRes w' e d p (secs n) n T L F s ∧ Ext w w' := by
  refine (callsIn_wide (n := 10)).1 ?_
  have HP : Hid (Pcs w ap np T A L C F) := h
  refine callsIn_of_wp_marks Try.func17 rfl trivial ?_ rfl
  simp only [Try.ntmps17, List.size_toArray, List.length_cons, List.length_nil, Nat.reduceAdd, Nat.reduceSub, Array.replicate_succ, Array.replicate_zero, List.push_toArray, List.append_toArray, List.nil_append, List.cons_append]
  refine wpIn_wide.2 ?_
  go_upto_region 1 with fail
  obtain ⟨W0, hW0⟩ : ∃ W0, ((((((w.alloc (.cells #[.int .i64 p] 3)).alloc (.cells #[.int .i64 n] 3)).alloc (.cells #[.int .i64 (s 0), .int .i64 (s 1), .int .i64 (s 2), .int .i64 (s 3)] 37)).alloc (.cells #[.slice none 0 0] 22)).alloc (.cells #[.slice none 0 0] 30)).alloc (.cells #[.int .i64 0] 24)) = W0 := ⟨_, rfl⟩
  have hs0 : W0.heap.size = w.heap.size + 6 := by rw [← hW0]; simp
  have HX0 : Hid (Ext w W0) := by show Ext w W0; rw [← hW0]; exact (((((((Ext.refl w).alloc _ _).alloc _ _).alloc _ _).alloc _ _).alloc _ _).alloc _ _)
  have HB7 : Hid (W0.heap[w.heap.size]? = some (.cells #[.int .i64 p] 3 (0, 0))) := by
    show _ = _
    rw [← hW0]
    exact extBlk ((((((Ext.refl _).alloc _ _).alloc _ _).alloc _ _).alloc _ _).alloc _ _) (heap_alloc_new w _)
  have HB9 : Hid (W0.heap[w.heap.size + 1]? = some (.cells #[.int .i64 n] 3 (0, 0))) := by
    show _ = _
    rw [← hW0]
    have h := heap_alloc_new (w.alloc (.cells #[.int .i64 p] 3)) (.cells #[.int .i64 n] 3)
    rw [World.size_alloc] at h
    exact extBlk (((((Ext.refl _).alloc _ _).alloc _ _).alloc _ _).alloc _ _) h
  have HB11 : Hid (W0.heap[w.heap.size + 1 + 1]? = some (.cells #[.int .i64 (s 0), .int .i64 (s 1), .int .i64 (s 2), .int .i64 (s 3)] 37 (0, 0))) := by
    show _ = _
    rw [← hW0]
    have h := heap_alloc_new ((w.alloc (.cells #[.int .i64 p] 3)).alloc (.cells #[.int .i64 n] 3)) (.cells #[.int .i64 (s 0), .int .i64 (s 1), .int .i64 (s 2), .int .i64 (s 3)] 37)
    rw [World.size_alloc, World.size_alloc] at h
    exact extBlk ((((Ext.refl _).alloc _ _).alloc _ _).alloc _ _) h
  have HB12 : Hid (W0.heap[w.heap.size + 1 + 1 + 1]? = some (.cells #[.slice none 0 0] 22 (0, 0))) := by
    show _ = _
    rw [← hW0]
    have h := heap_alloc_new (((w.alloc (.cells #[.int .i64 p] 3)).alloc (.cells #[.int .i64 n] 3)).alloc (.cells #[.int .i64 (s 0), .int .i64 (s 1), .int .i64 (s 2), .int .i64 (s 3)] 37)) (.cells #[.slice none 0 0] 22)
    rw [World.size_alloc, World.size_alloc, World.size_alloc] at h
    exact extBlk (((Ext.refl _).alloc _ _).alloc _ _) h
  have HB13 : Hid (W0.heap[w.heap.size + 1 + 1 + 1 + 1]? = some (.cells #[.slice none 0 0] 30 (0, 0))) := by
    show _ = _
    rw [← hW0]
    have h := heap_alloc_new ((((w.alloc (.cells #[.int .i64 p] 3)).alloc (.cells #[.int .i64 n] 3)).alloc (.cells #[.int .i64 (s 0), .int .i64 (s 1), .int .i64 (s 2), .int .i64 (s 3)] 37)).alloc (.cells #[.slice none 0 0] 22)) (.cells #[.slice none 0 0] 30)
    rw [World.size_alloc, World.size_alloc, World.size_alloc, World.size_alloc] at h
    exact extBlk ((Ext.refl _).alloc _ _) h
  have HB14 : Hid (W0.heap[w.heap.size + 1 + 1 + 1 + 1 + 1]? = some (.cells #[.int .i64 0] 24 (0, 0))) := by
    show _ = _
    rw [← hW0]
    have h := heap_alloc_new (((((w.alloc (.cells #[.int .i64 p] 3)).alloc (.cells #[.int .i64 n] 3)).alloc (.cells #[.int .i64 (s 0), .int .i64 (s 1), .int .i64 (s 2), .int .i64 (s 3)] 37)).alloc (.cells #[.slice none 0 0] 22)).alloc (.cells #[.slice none 0 0] 30)) (.cells #[.int .i64 0] 24)
    rw [World.size_alloc, World.size_alloc, World.size_alloc, World.size_alloc, World.size_alloc] at h
    exact h
  rw [hW0]
  clear hW0
  have HC7 : Hid (∀ u, Ext W0 u → u.cell? ⟨w.heap.size, 0, none⟩ = some (.int .i64 p)) := fun u x => by rw [cell_of_row _ _ 0 _ _ _ (extBlk x HB7.out)]; rfl
  have HC9 : Hid (∀ u, Ext W0 u → u.cell? ⟨w.heap.size + 1, 0, none⟩ = some (.int .i64 n)) := fun u x => by rw [cell_of_row _ _ 0 _ _ _ (extBlk x HB9.out)]; rfl
  have HO : Hid (StOk d p (secs n)) := ho
  have HSZ : Hid (szOk n = true) := hs
  have HNP : Hid (np = colN d p (secs n)) := hnp
  have HF : Hid (fitN np T L (wdB d p (secs n)) = true) := hf
  have HLB : Hid (∀ r, r < np → L r ≤ 9223372036854775807) := hL
  have hst := ok_st ho ha hs
  have HST : Hid (stOkB d p a n = true) := hst
  have hsn := (szOk_iff n).1 hs
  have hN := ho.N
  rw [← hnp] at hN
  have hpb := ho.p1
  have hpb3 := ho.p3
  have HCO := columnsOf_any d p a n n W0 (fun _ => rfl) (fun h => by rw [hs] at h; cases h)
  rw [stE_ok hst] at HCO
  clear h ho hs hnp hf hL hst
  have c7 := HC7.out W0 (Ext.refl _)
  have c9 := HC9.out W0 (Ext.refl _)
  go_wp2_with fail
  refine HCO.mono ?_
  rintro e W1 ⟨⟨ac, k, cm, rfl, hcn⟩, hx1⟩
  obtain ⟨hkn, hkc, hCn⟩ := hcn HST.out
  rw [Int.toNat_natCast, Int.toNat_natCast] at hkn
  rw [Int.toNat_natCast, Int.toNat_natCast, Int.toNat_natCast] at hCn
  have hk : np = k := by rw [HNP.out, hkn]
  subst hk
  clear hkn hcn c7 c9 HCO
  go_upto_region 2 with fail
  obtain ⟨W2, hW2⟩ : ∃ W2, W1.alloc (.cells #[.slice ac np cm] 51) = W2 := ⟨_, rfl⟩
  have HX2 : Hid (Ext W0 W2) := by show Ext W0 W2; rw [← hW2]; exact hx1.alloc _ _
  have HC15 : Hid (∀ u, Ext W2 u → u.cell? ⟨W1.heap.size, 0, none⟩ = some (.slice ac np cm)) := fun u x => x.keeps (by rw [← hW2, new_cell]; rfl)
  have HCN : Hid (CnS W2 ac d p a (secs n) 0 np) := by show CnS W2 ac d p a (secs n) 0 np; rw [← hW2]; exact hCn.ext ((Ext.refl W1).alloc _ _)
  obtain ⟨g15, hg15⟩ : ∃ g, W1.heap.size = g := ⟨_, rfl⟩
  rw [hg15] at HC15 ⊢
  rw [hW2]
  clear hW2 hg15 hCn hx1
  have c15 := HC15.out W2 (Ext.refl _)
  go_wp2_with fail
  refine (fit_any ap np cp T A L C F ac np cm d p a (secs n) W2 (by omega) hN.2 HLB.out HO.out HNP.out (HP.out.ext (HX0.out.trans HX2.out)) HCN.out).mono ?_
  rintro e W3 ⟨rfl, hx3⟩
  have hft : (decide (np = np) && fitN np T L (wdB d p (secs n))) = true := by rw [HF.out]; simp
  rw [hft]
  clear c15 hft
  go_wp2_with fail
  refine (stPlaces_any ap np cp T A L C F true W3 (by omega) (HP.out.ext ((HX0.out.trans HX2.out).trans hx3))).mono ?_
  rintro e W4 ⟨⟨vl, rfl, hvl⟩, hx4⟩
  go_wp2_with fail
  refine (stPlaces_any ap np cp T A L C F false W4 (by omega) (HP.out.ext (((HX0.out.trans HX2.out).trans hx3).trans hx4))).mono ?_
  rintro e W5 ⟨⟨vk, rfl, hvk⟩, hx5⟩
  obtain ⟨al, cl, hvl2, hIl⟩ := own_places hvl
  obtain ⟨ak, ck, hvk2, hIk⟩ := own_places hvk
  subst hvl2
  subst hvk2
  obtain ⟨ml, hml⟩ : ∃ ml, (plcs np T true).length = ml := ⟨_, rfl⟩
  obtain ⟨mk, hmk⟩ : ∃ mk, (plcs np T false).length = mk := ⟨_, rfl⟩
  have hsp : ml + mk = np := by
    rw [← hml, ← hmk]
    exact plcs_len np T
  rw [hml] at hl hIl ⊢
  rw [hmk] at hIk ⊢
  have HML : Hid ((plcs np T true).length = ml) := hml
  have HMK : Hid ((plcs np T false).length = mk) := hmk
  have HX5 : Hid (Ext W2 W5) := (hx3.trans hx4).trans hx5
  have HIL : Hid (Ints W5 al ml fun i => (((plcs np T true).getD i 0 : Nat) : Int)) := hIl.ext hx5
  have HIK : Hid (Ints W5 ak mk fun i => (((plcs np T false).getD i 0 : Nat) : Int)) := hIk
  clear hvl hvk hIl hIk hml hmk hx3 hx4 hx5
  go_upto_region 7 with fail
  obtain ⟨W6, hW6⟩ : ∃ W6, (W5.alloc (.cells #[.slice al ml cl] 30)).alloc (.cells #[.slice ak mk ck] 30) = W6 := ⟨_, rfl⟩
  have hx56 : Ext W5 W6 := by rw [← hW6]; exact ((Ext.refl _).alloc _ _).alloc _ _
  have HX6 : Hid (Ext W2 W6) := HX5.out.trans hx56
  have HC17 : Hid (∀ u, Ext W6 u → u.cell? ⟨W5.heap.size, 0, none⟩ = some (.slice al ml cl)) := fun u x => x.keeps (by rw [← hW6]; exact alloc_keeps (by rw [new_cell]; rfl) _)
  have HC18 : Hid (∀ u, Ext W6 u → u.cell? ⟨W5.heap.size + 1, 0, none⟩ = some (.slice ak mk ck)) := fun u x => x.keeps (by
    rw [← hW6]
    have h := new_cell (W5.alloc (.cells #[.slice al ml cl] 30)) #[.slice ak mk ck] 30 0
    rw [World.size_alloc] at h
    rw [h]
    rfl)
  have HIL6 : Hid (Ints W6 al ml fun i => (((plcs np T true).getD i 0 : Nat) : Int)) := HIL.out.ext hx56
  have HIK6 : Hid (Ints W6 ak mk fun i => (((plcs np T false).getD i 0 : Nat) : Int)) := HIK.out.ext hx56
  obtain ⟨g17, hg17⟩ : ∃ g, W5.heap.size = g := ⟨_, rfl⟩
  rw [hg17] at HC17 HC18 ⊢
  rw [hW6]
  have HX06 : Hid (Ext W0 W6) := HX2.out.trans HX6.out
  clear hW6 hx56 HIL HIK HX5 hg17
  have c17 := HC17.out W6 (Ext.refl _)
  have c7 := HC7.out W6 HX06.out
  have hmlp : ¬ ((p : Int) < (ml : Int)) := by omega
  have c15 := HC15.out W6 HX6.out
  have hcnt : cntC d p (secs n) 0 ≤ 1048576 := by
    have := (HO.out.cnt (i := 0) (by rw [← HNP.out]; omega)).2.2.2
    omega
  have hM4 : wdB d p (secs n) 0 ≤ 4096 := (HO.out.wd (i := 0) (by rw [← HNP.out]; omega)).2.2
  go_upto_region 9 with fail
  clear c17
  have HPU : Hid (∀ u, Ext W6 u → Pcs u ap np T A L C F) := fun u x => HP.out.ext (HX0.out.trans (HX06.out.trans x))
  have HCU : Hid (∀ u, Ext W6 u → CnS u ac d p a (secs n) 0 np) := fun u x => HCN.out.ext (HX6.out.trans x)
  have hnp8 := hN.2
  have hpn := hN.1
  obtain ⟨M, hMM⟩ : ∃ M, wdB d p (secs n) 0 = M := ⟨_, rfl⟩
  have HMM : Hid (wdB d p (secs n) 0 = M) := hMM
  have HLG : Hid (∀ u, Ext W6 u → Calls Try.prog 25 #[.slice ac np cm] u fun e w' => e = .returned (.int .i64 M) ∧ Ext u w') := fun u x => by
    have := longest_any ac np cm d p a (secs n) u (by omega) hcnt (HCU.out u x)
    rw [hMM] at this
    exact this
  rw [hMM] at hM4
  clear hMM c15 c7
  have HF1 : Hid ((Try.f31.name == "runtime.NumGoroutine") = false ∧ Try.f31.body.isNone = false) := ⟨by kernel_rfl, by kernel_rfl⟩
  have HF2 : Hid ((Try.f25.name == "runtime.NumGoroutine") = false ∧ Try.f25.body.isNone = false) := ⟨by kernel_rfl, by kernel_rfl⟩
  have HF3 : Hid ((Try.f24.name == "runtime.NumGoroutine") = false ∧ Try.f24.body.isNone = false) := ⟨by kernel_rfl, by kernel_rfl⟩
  refine wp_region_fixed3 (P := Try.prog) 7 (by kernel_rfl) (by kernel_rfl) (fun i => if i = 6 then 19 else 48 + i) (r9V ap ac np cp cm p M) (R9J W6 np M (fun j => A (tauP np p j)) (fun j => L (tauP np p j)) (fun j => C (tauP np p j)) (fun j => F (tauP np p j)) (gatZ np p L F)) (by kernel_rfl) (by kernel_rfl) [] (by kernel_rfl) (fun p g hg => by simp at hg)
    (fun i j hi hj h => by have h : (if i = 6 then 19 else 48 + i) = (if j = 6 then 19 else 48 + j) := h; split at h <;> split at h <;> omega) (fun i hi => by show (if i = 6 then 19 else 48 + i) < 86; split <;> omega) (0, 0, 0) ⟨(Ext.refl _).drew, (fun h => by cases h), (fun h => by cases h), (fun h => by cases h)⟩ ?_ ?_
  · intro g Ls i a' w' hi7 hLi hde hcl hA hJ
    match i, hi7, hLi, hde with
    | 0, _, hLi, hde =>
      have e4 : a'.eval (.tmp 4) = .slice ap np cp := hA.eval 4 (fun j _ => by show (if j = 6 then 19 else 48 + j) ≠ 4; split <;> omega)
      exact ⟨_, rfl, fun K' hk => wp_runs (gx_move (.tmp 4) rfl e4) (hk g w' (fun _ _ _ => rfl) (hJ.next (Ext.refl _) (by omega) (by omega) (by omega)))⟩
    | 1, _, hLi, hde =>
      have e7 : a'.eval (.tmp 7) = .pointer (some ⟨w.heap.size, 0, none⟩) := hA.eval 7 (fun j _ => by show (if j = 6 then 19 else 48 + j) ≠ 7; split <;> omega)
      exact ⟨_, rfl, fun K' hk => wp_runs (gx_load _ (.tmp 7) rfl e7 (load_oneS Try.underlying3 rfl (HC7.out w' (HX06.out.trans hJ.ext)))) (hk g w' (fun _ _ _ => rfl) (hJ.next (Ext.refl _) (by omega) (by omega) (by omega)))⟩
    | 2, _, hLi, hde =>
      have e48 : a'.eval (.tmp 48) = .slice ap np cp := hA.at 0 (by omega) (hde 0 (by kernel_rfl))
      have e49 : a'.eval (.tmp 49) = .int .i64 p := hA.at 1 (by omega) (hde 1 (by kernel_rfl))
      refine ⟨_, rfl, fun K' hk => wp_callsG 31 Try.func31 HF1.out.1 HF1.out.2 [.tmp 48, .tmp 49] _ rfl [.slice ap np cp, .int .i64 p] (by simp only [List.map_cons, List.map_nil, e48, e49]) (.slice (some ⟨w'.heap.size, 0, none⟩) np np) (fun w'' => Ext w' w'' ∧ Cols w'' (some ⟨w'.heap.size, 0, none⟩) np (fun j => A (tauP np p j)) (fun j => L (tauP np p j)) (fun j => C (tauP np p j)) (fun j => F (tauP np p j))) ((dataFirst_any ap np cp T A L C F p w' hnp8 hpn (HPU.out w' hJ.ext)).mono fun e w'' h => ⟨h.1.1, h.2, h.1.2⟩) fun w'' hw'' => ?_⟩
      refine hk (w'.heap.size, g.2) w'' (fun j hj hl => ?_) ⟨hJ.ext.trans hw''.1, fun _ => hw''.2, fun hl => hw''.1.cols2 (hJ.fil (by unfold updB at hl; rw [if_neg (by omega)] at hl; exact hl)), fun hl => ⟨extBlk hw''.1 (hJ.bx (by unfold updB at hl; rw [if_neg (by omega)] at hl; exact hl)).1, (hJ.bx (by unfold updB at hl; rw [if_neg (by omega)] at hl; exact hl)).2⟩⟩
      have e : j ≠ 2 := fun h => by rw [h, hLi] at hl; cases hl
      exact r9V_2 e
    | 3, _, hLi, hde =>
      have e15 : a'.eval (.tmp 15) = .pointer (some ⟨g15, 0, none⟩) := hA.eval 15 (fun j _ => by show (if j = 6 then 19 else 48 + j) ≠ 15; split <;> omega)
      exact ⟨_, rfl, fun K' hk => wp_runs (gx_load _ (.tmp 15) rfl e15 (load_oneS Try.underlying51 rfl (HC15.out w' (HX6.out.trans hJ.ext)))) (hk g w' (fun _ _ _ => rfl) (hJ.next (Ext.refl _) (by omega) (by omega) (by omega)))⟩
    | 4, _, hLi, hde =>
      have e51 : a'.eval (.tmp 51) = .slice ac np cm := hA.at 3 (by omega) (hde 3 (by kernel_rfl))
      exact ⟨_, rfl, fun K' hk => wp_callsG 25 Try.func25 HF2.out.1 HF2.out.2 [.tmp 51] _ rfl [.slice ac np cm] (by simp only [List.map_cons, List.map_nil, e51]) (.int .i64 M) (fun w'' => Ext w' w'') (HLG.out w' hJ.ext) fun w'' hw'' => hk g w'' (fun _ _ _ => rfl) (hJ.next hw'' (by omega) (by omega) (by omega))⟩
    | 5, _, hLi, hde =>
      have e50 : a'.eval (.tmp 50) = .slice (some ⟨g.1, 0, none⟩) np np := hA.at 2 (by omega) (hde 2 (by kernel_rfl))
      have e52 : a'.eval (.tmp 52) = .int .i64 M := hA.at 4 (by omega) (hde 4 (by kernel_rfl))
      have hdat := hJ.dat (hde 2 (by kernel_rfl))
      refine ⟨_, rfl, fun K' hk => wp_callsG 24 Try.func24 HF3.out.1 HF3.out.2 [.tmp 50, .tmp 52] _ rfl [.slice (some ⟨g.1, 0, none⟩) np np, .int .i64 M] (by simp only [List.map_cons, List.map_nil, e50, e52]) (.slice (some ⟨w'.heap.size, 0, none⟩) np np) (fun w'' => Ext w' w'' ∧ ∃ w0 G, BldB w0 w'' w'.heap.size np M np (gatZ np p L F) G) ((filled_any (some ⟨g.1, 0, none⟩) np np _ _ _ _ M w' (by omega) (by omega) hdat).mono fun e w'' h => ⟨h.1, ?_⟩) fun w'' hw'' => ?_⟩
      · obtain ⟨_, G, hG⟩ := h
        exact ⟨hG.ext, _, _, hG⟩
      · refine hk (g.1, w'.heap.size, g.2.2) w'' (fun j hj hl => ?_) ⟨hJ.ext.trans hw''.1, fun hl => (hJ.dat (by unfold updB at hl; rw [if_neg (by omega)] at hl; exact hl)).ext hw''.1, fun _ => hw''.2, fun hl => ⟨extBlk hw''.1 (hJ.bx (by unfold updB at hl; rw [if_neg (by omega)] at hl; exact hl)).1, (hJ.bx (by unfold updB at hl; rw [if_neg (by omega)] at hl; exact hl)).2⟩⟩
        have e : j ≠ 5 := fun h => by rw [h, hLi] at hl; cases hl
        exact r9V_5 e
    | 6, _, hLi, hde =>
      refine ⟨_, rfl, fun K' hk => wp_allocs1 23 rfl (zeroV_of (show (Try.prog.info? 23).map (fun i => i.zero) = some (some (.slice none 0 0)) by kernel_rfl)) ?_⟩
      refine hk (g.1, g.2.1, w'.heap.size) _ (fun j hj hl => ?_) ⟨hJ.ext.alloc _ _, fun hl => (hJ.dat (by unfold updB at hl; rw [if_neg (by omega)] at hl; exact hl)).ext ((Ext.refl _).alloc _ _), fun hl => ((Ext.refl _).alloc _ _).cols2 (hJ.fil (by unfold updB at hl; rw [if_neg (by omega)] at hl; exact hl)), fun _ => ⟨heap_alloc_new _ _, hJ.ext.size⟩⟩
      have e : j ≠ 6 := fun h => by rw [h, hLi] at hl; cases hl
      exact r9V_6 e
    | x + 7, h, _, _ => exact absurd h (by omega)
  · intro g Ls w' hL' hJ
    obtain ⟨gd, ga, g19⟩ := g
    have HX7 : Hid (Ext W6 w') := hJ.ext
    have hfil := hJ.fil (hL' 5 (by omega))
    obtain ⟨hb19, hg19⟩ := hJ.bx (hL' 6 (by omega))
    dsimp only at hb19 hg19 hfil
    have hc19 : w'.cell? ⟨g19, 0, none⟩ = some (.slice none 0 0) := by rw [cell_of_row _ _ 0 _ _ _ hb19]; rfl
    have hf19 := frozen_of_row w' g19 0 _ _ hb19
    have HB19 : Hid (w'.heap[g19]? = some (.cells #[.slice none 0 0] 23 (0, 0))) := hb19
    clear hJ hL' hb19 HF1 HF2 HF3 HLG HPU HCU
    simp only [List.drop_succ_cons, List.drop_zero]
    have hput : ∀ a0 : Act, putAll (fun i => if i = 6 then 19 else 48 + i) (r9V ap ac np cp cm p M (gd, ga, g19)) a0 7 = (((((((a0.put (some 48) (.slice ap np cp)).put (some 49) (.int .i64 p)).put (some 50) (.slice (some ⟨gd, 0, none⟩) np np)).put (some 51) (.slice ac np cm)).put (some 52) (.int .i64 M)).put (some 53) (.slice (some ⟨ga, 0, none⟩) np np)).put (some 19) (.pointer (some ⟨g19, 0, none⟩))) := fun _ => rfl
    rw [hput]
    simp only [Act.put, List.setIfInBounds_toArray, List.set_cons_succ, List.set_cons_zero]
    clear hput
    have HW8 : Hid (Ext W6 (w'.setCell ⟨g19, 0, none⟩ (.slice (some ⟨ga, 0, none⟩) np np)) ∧ (w'.setCell ⟨g19, 0, none⟩ (.slice (some ⟨ga, 0, none⟩) np np)).cell? ⟨g19, 0, none⟩ = some (.slice (some ⟨ga, 0, none⟩) np np) ∧ ∃ A' C', Cols (w'.setCell ⟨g19, 0, none⟩ (.slice (some ⟨ga, 0, none⟩) np np)) (some ⟨ga, 0, none⟩) np A' (fun _ => M) C' (gatZ np p L F)) := by
      obtain ⟨w0, G, hB⟩ := hfil
      refine ⟨HX7.out.setCell (p := ⟨g19, 0, none⟩) hg19 _, World.cell?_setCell_same' _ _ _ (by rw [hc19]; rfl), _, _, hB.cols_set HB19.out (by decide) (by decide) _⟩
    clear hfil
    go_upto_region 10 with fail
    clear hc19 hf19
    generalize w'.setCell ⟨g19, 0, none⟩ (.slice (some ⟨ga, 0, none⟩) np np) = W8 at *
    obtain ⟨hx8, hc19, A', C', hCA⟩ := HW8.out
    have HX8 : Hid (Ext W6 W8) := hx8
    have HC19 : Hid (W8.cell? ⟨g19, 0, none⟩ = some (.slice (some ⟨ga, 0, none⟩) np np)) := hc19
    have HCA : Hid (Cols W8 (some ⟨ga, 0, none⟩) np A' (fun _ => M) C' (gatZ np p L F)) := hCA
    clear HW8 HB19 HX7 hCA hx8 hc19 hg19
    have c7 := HC7.out W8 (HX06.out.trans HX8.out)
    have c17 := HC17.out W8 HX8.out
    have c18 := HC18.out W8 HX8.out
    obtain ⟨q, hq⟩ : ∃ q, p - ml = q := ⟨_, rfl⟩
    have hqi : (p : Int) - (ml : Int) = (q : Int) := by omega
    have hmlb : ml ≤ 8 ∧ mk ≤ 8 ∧ q ≤ mk := by omega
    have HQ : Hid (p - ml = q) := hq
    go_wp2_with fail
    refine (stPicks_any mk q _).mono ?_
    rintro e W9 ⟨rfl, hW9⟩
    obtain ⟨g20, hg20⟩ : ∃ g, W8.heap.size = g := ⟨_, rfl⟩
    have hx9 : Ext W8 W9 := by rw [hW9]; exact ((Ext.refl _).alloc _ _).alloc _ _
    have hbn : W9.cell? ⟨g20, 0, none⟩ = some (.int .i64 mk) := by
      rw [hW9, ← hg20]
      exact alloc_keeps (by rw [new_cell]; rfl) _
    have hbm : W9.cell? ⟨g20 + 1, 0, none⟩ = some (.int .i64 q) := by
      rw [hW9, ← hg20]
      have h := new_cell (W8.alloc (.cells #[.int .i64 mk] 3)) #[.int .i64 q] 3 0
      rw [World.size_alloc] at h
      rw [h]
      rfl
    rw [hg20]
    have HX9 : Hid (Ext W8 W9) := hx9
    have HX69 : Hid (Ext W6 W9) := HX8.out.trans hx9
    have HX09 : Hid (Ext W0 W9) := HX06.out.trans HX69.out
    have HXw : Hid (Ext w W9) := HX0.out.trans HX09.out
    clear hW9 hx9 hg20 c7 c17 c18
    obtain ⟨All, hAll⟩ : ∃ All, allPk mk (q + 1) = All := ⟨_, rfl⟩
    have HA : Hid (All = allPk (plcs (colN d p (secs n)) T false).length (p - (plcs (colN d p (secs n)) T true).length + 1)) := by
      show _ = _
      rw [← HNP.out, HMK.out, HML.out, HQ.out, hAll]
    have HSEQ := picks_seq 9 (by omega) (g20 + 1) g20 mk q (by omega) (by omega) W9 hbm hbn
    rw [hAll] at HSEQ
    go_wp2_with fail
    refine (wpIn_wide (n := 10)).1 ?_
    refine wp_range_given (F := Fence.wide) (n := 10) rfl (by omega) (gf := 48) (lb := #[.pointer (some ⟨g20 + 1, 0, none⟩), .pointer (some ⟨g20, 0, none⟩)]) rfl trivial (enters_of Try.func48 (by kernel_rfl) rfl) rfl
      (fun x W => Kb W9.heap.size W9 W ∧ ∀ i k, i < x → All[i]? = some k → sumB4 (secs n) s (gatP d p (secs n) T L F k) = false)
      (GatX w d p (secs n) n T L F s (w.heap.size + 1 + 1 + 1)) (PkAt All) 0 All.length HSEQ (fun x A B h k => ⟨h.1.trans k, h.2⟩) (fun A B h k => h.kb k HXw.out.size) (fun x x' v A B h k => h.kc k) ⟨⟨Kc.refl _, Below.refl _ _⟩, fun i k hi => by omega⟩ (fun tm v => { tmps := (tm.setIfInBounds 61 v).setIfInBounds 20 v, defers := [] }) ?assign ?body ?done ?stop
    case assign =>
      intro l x x' v W K hi hp hK
      gi_wp2
      exact hK
    case body =>
      rintro l x x' v W ⟨hkb, hno⟩ ⟨rfl, k, ab, cb, hk, rfl, hIk⟩
      simp only [List.setIfInBounds_toArray, List.set_cons_succ, List.set_cons_zero]
      have hka := hkb.1
      have hc7 := hka.keeps (HC7.out W9 HX09.out)
      have hc15 := hka.keeps (HC15.out W9 (HX6.out.trans HX69.out))
      have hc17 := hka.keeps (HC17.out W9 HX69.out)
      have hc18 := hka.keeps (HC18.out W9 HX69.out)
      have hc19 := hka.keeps (HX9.out.keeps HC19.out)
      have hIL := hka.ints (HIL6.out.ext HX69.out)
      have hIK := hka.ints (HIK6.out.ext HX69.out)
      have hmem : k ∈ allPk (plcs np T false).length (q + 1) := by
        have := List.mem_of_getElem? hk
        rw [← hAll] at this
        rw [HMK.out]
        exact this
      have hpf := pick_facts hmem
      rw [HMK.out] at hpf
      have hkq : k.length ≤ q := by omega
      have hIk2 : Ints W ab k.length fun i => ((k.getD i 0 : Nat) : Int) := hIk.congr fun i _ => by unfold pkF; rw [List.getD_eq_getElem?_getD]
      have HAT := stAt_any ak mk ck (fun i => (((plcs np T false).getD i 0 : Nat) : Int)) ab k.length cb (fun i => k.getD i 0) W (by omega) hpf.2.1 hIK hIk2
      have HKB : Hid (Kb W9.heap.size W9 W) := hkb
      have HNO : Hid (∀ i k, i < x → All[i]? = some k → sumB4 (secs n) s (gatP d p (secs n) T L F k) = false) := hno
      have HAK : Hid (All[x]? = some k) := hk
      have HMEM : Hid (k ∈ allPk (plcs np T false).length (q + 1)) := hmem
      have HCW : Hid (∀ u, Ext W u → Cols u (some ⟨ga, 0, none⟩) np A' (fun _ => wdB d p (secs n) 0) C' (gatZ np p L F)) := fun u xu => by
        have h1 := (hka.cols (HCA.out.ext HX9.out)).ext xu
        rw [HMM.out]
        exact h1
      have HNW : Hid (∀ u, Ext W u → CnS u ac d p a (secs n) 0 np) := fun u xu => CnS.ext (hka.els (HCN.out.ext (HX6.out.trans HX69.out))) xu
      obtain ⟨kl, hkl⟩ : ∃ kl, k.length = kl := ⟨_, rfl⟩
      have HKL : Hid (k.length = kl) := hkl
      have hkl8 : kl ≤ 8 ∧ ml + kl ≤ p := by omega
      rw [hkl] at HAT ⊢
      have HILW : Hid (Ints W al ml fun i => (((plcs np T true).getD i 0 : Nat) : Int)) := hIL
      clear hkb hno hk hpf hmem hIk hIk2 hIK hIL hkl hkq hka
      gi_wp2_with (first | (refine ⟨trivial, ?_⟩; gi_at_call 33; refine (CallsIn.inRound l (callsIn_wide.2 HAT)).mono ?_) | fail)
      rintro e Wa ⟨rfl, hra, hxa⟩
      have HXA : Hid (Ext W Wa) := hxa
      have hc7 := hxa.keeps hc7
      have hc15 := hxa.keeps hc15
      have hc17 := hxa.keeps hc17
      have hc19 := hxa.keeps hc19
      have HBAD : Hid (Ints Wa (some ⟨W.heap.size, 0, none⟩) kl fun i => (((badL np T k).getD i 0 : Nat) : Int)) := Ints.mk fun i hi => by
        have := hra.cell hi
        rw [Nat.zero_add]
        rw [this, badL_at (by rw [HKL.out]; exact hi)]
      obtain ⟨gb, hgb⟩ : ∃ g, W.heap.size = g := ⟨_, rfl⟩
      have HGB : Hid (w.heap.size + 6 ≤ gb) := by
        show w.heap.size + 6 ≤ gb
        have h1 := HKB.out.1.size
        have h2 := HX09.out.size
        rw [hs0] at h2
        omega
      rw [hgb] at HBAD ⊢
      have HMT : Hid (∀ Wx, Ext Wa Wx → ∀ Y : World, Ext (Wx.alloc (.cells #[.slice al ml cl, .slice (some ⟨gb, 0, none⟩) kl kl] 30)) Y → Mat Y (some ⟨Wx.heap.size, 0, none⟩) 2 (fun i => if i = 0 then al else some ⟨gb, 0, none⟩) (fun i => if i = 0 then ml else kl) (fun i => if i = 0 then cl else kl) (fun i j => if i = 0 then (((plcs np T true).getD j 0 : Nat) : Int) else (((badL np T k).getD j 0 : Nat) : Int))) := fun Wx xw Y x => by
        have hxx := (Ext.refl Wx).alloc #[.slice al ml cl, .slice (some ⟨gb, 0, none⟩) kl kl] 30
        have h0 := new_cell Wx #[.slice al ml cl, .slice (some ⟨gb, 0, none⟩) kl kl] 30 0
        have h1 := new_cell Wx #[.slice al ml cl, .slice (some ⟨gb, 0, none⟩) kl kl] 30 1
        refine Mat.ext (fun r hr => ?_) x
        match r, hr with
        | 0, _ => exact ⟨⟨_, 0, rfl, h0⟩, HILW.out.ext ((HXA.out.trans xw).trans hxx)⟩
        | 1, _ => exact ⟨⟨_, 0, rfl, h1⟩, HBAD.out.ext (xw.trans hxx)⟩
      have hL2 : ∀ i, i < 2 → (if i = 0 then ml else kl) ≤ 1024 := fun i _ => by split <;> omega
      obtain ⟨ng, hng⟩ : ∃ ng, ml + kl = ng := ⟨_, rfl⟩
      have HGL : Hid ((goneL np T k).length = ng) := by show _ = _; rw [goneL_len, HML.out, HKL.out, hng]
      have HSN : Hid (sumN (fun i => if i = 0 then ml else kl) 2 = ng) := by show 0 + ml + kl = ng; omega
      have HCV : Hid (∀ i, i < ng → (catV (fun i => if i = 0 then ml else kl) (fun i j => if i = 0 then (((plcs np T true).getD j 0 : Nat) : Int) else (((badL np T k).getD j 0 : Nat) : Int)) 2)[i]? = some (.int .i64 (((goneL np T k).getD i 0 : Nat) : Int))) := fun i hi => by
        show (([] ++ (List.range ml).map fun i => Value.int .i64 (((plcs np T true).getD i 0 : Nat) : Int)) ++ (List.range kl).map fun i => Value.int .i64 (((badL np T k).getD i 0 : Nat) : Int))[i]? = _
        rw [List.nil_append]
        by_cases e : i < ml
        · rw [List.getElem?_append_left (by simpa using e), range_get _ e, goneL_lo (by rw [HML.out]; exact e)]
        · rw [List.getElem?_append_right (by simp; omega), List.length_map, List.length_range, range_get _ (by omega)]
          have := goneL_hi (n := np) (T := T) (p := k) (i := i - ml)
          rw [HML.out, show ml + (i - ml) = i by omega] at this
          rw [this]
      have hglt := fun i (hi : i < ng) => goneL_lt HMEM.out (i := i) (by rw [HGL.out]; exact hi)
      have hgne := fun i j (hij : i < j) (hj : j < ng) => goneL_ne HMEM.out hij (j := j) (by rw [HGL.out]; exact hj)
      have hngp : ng ≤ p := by omega
      obtain ⟨B, hB⟩ : ∃ B, gatP d p (secs n) T L F k = B := ⟨_, rfl⟩
      have HBB : Hid (gatP d p (secs n) T L F k = B) := hB
      have HWB : Hid (catW d p (secs n) (rebC np p (hasP np p fun r => hasB ng (fun i => (((goneL np T k).getD i 0 : Nat) : Int)) r) (gatZ np p L F)) (np - p) = B) := by
        show _ = _
        rw [← hB]
        unfold gatP gatD
        rw [← HNP.out]
        have e : (fun r : Nat => hasB ng (fun i => (((goneL np T k).getD i 0 : Nat) : Int)) r) = fun r => decide (r ∈ goneL np T k) := by
          funext r
          rw [← HGL.out]
          exact hasB_mem _ r
        rw [e]
      clear hra hxa hgb hB hng
      gi_wp2_with fail
      have HCI : Hid ((Try.f35.name == "runtime.NumGoroutine") = false ∧ Try.f35.body.isNone = false) := ⟨by kernel_rfl, by kernel_rfl⟩
      have HWI : Hid ((Try.f34.name == "runtime.NumGoroutine") = false ∧ Try.f34.body.isNone = false) := ⟨by kernel_rfl, by kernel_rfl⟩
      have HC19' : Hid (∀ Y, Ext Wa Y → Y.cell? ⟨g19, 0, none⟩ = some (.slice (some ⟨ga, 0, none⟩) np np)) := fun Y y => y.keeps hc19
      have HC15' : Hid (∀ Y, Ext Wa Y → Y.cell? ⟨g15, 0, none⟩ = some (.slice ac np cm)) := fun Y y => y.keeps hc15
      have HC7' : Hid (∀ Y, Ext Wa Y → Y.cell? ⟨w.heap.size, 0, none⟩ = some (.int .i64 p)) := fun Y y => y.keeps hc7
      have HC17' : Hid (∀ Y, Ext Wa Y → Y.cell? ⟨g17, 0, none⟩ = some (.slice al ml cl)) := fun Y y => y.keeps hc17
      have hdst : ∀ i, i < 8 → (65 + i : Nat) < 86 := fun i hi => by omega
      refine wpIn_region_fixed3 (F := Fence.wide.inRound l) (m := 10 - 1 - 1) (P := Try.prog) 8 (by kernel_rfl) (by kernel_rfl) (fun i => 65 + i) (r13V (.slice (some ⟨ga, 0, none⟩) np np) (.slice ac np cm) (.int .i64 p) (.slice al ml cl) (.slice (some ⟨gb, 0, none⟩) kl kl))
        (R13J Wa (fun Y b => Mat Y (some ⟨b, 0, none⟩) 2 (fun i => if i = 0 then al else some ⟨gb, 0, none⟩) (fun i => if i = 0 then ml else kl) (fun i => if i = 0 then cl else kl) (fun i j => if i = 0 then (((plcs np T true).getD j 0 : Nat) : Int) else (((badL np T k).getD j 0 : Nat) : Int)))
          (fun Y v => ∃ ag cg, v = .slice ag ng cg ∧ Ints Y ag ng fun i => (((goneL np T k).getD i 0 : Nat) : Int))
          (fun Y v => ∃ ad cd, v = .slice ad (128 * secs n) cd ∧ 128 * secs n ≤ cd ∧ cd ≤ 9223372036854775807 ∧ Byts Y ad (128 * secs n) B))
        (by kernel_rfl) (by kernel_rfl) (fun i j _ _ h => by have h : 65 + i = 65 + j := h; omega) (fun i hi => hdst i hi) (0, undef, undef) ⟨(Ext.refl _).drew, (fun h => by cases h), (fun h => by cases h), (fun h => by cases h)⟩ ?_ ?_
      · intro g Ls i a' w' hi8 hLi hde hcl hA hJ
        match i, hi8, hLi, hde with
        | 0, _, hLi, hde =>
          have e19 : a'.eval (.tmp 19) = .pointer (some ⟨g19, 0, none⟩) := hA.eval 19 (fun j _ => by show 65 + j ≠ 19; omega)
          exact ⟨_, rfl, fun K' hk => wpIn_runs (fun c h => by cases h) (fun c h => by cases h) (gx_load _ (.tmp 19) rfl e19 (load_oneS Try.underlying23 rfl (HC19'.out w' hJ.ext))) (hk g w' (fun _ _ _ => rfl) (hJ.next (Ext.refl _) (by omega)))⟩
        | 1, _, hLi, hde =>
          have e15 : a'.eval (.tmp 15) = .pointer (some ⟨g15, 0, none⟩) := hA.eval 15 (fun j _ => by show 65 + j ≠ 15; omega)
          exact ⟨_, rfl, fun K' hk => wpIn_runs (fun c h => by cases h) (fun c h => by cases h) (gx_load _ (.tmp 15) rfl e15 (load_oneS Try.underlying51 rfl (HC15'.out w' hJ.ext))) (hk g w' (fun _ _ _ => rfl) (hJ.next (Ext.refl _) (by omega)))⟩
        | 2, _, hLi, hde =>
          have e7 : a'.eval (.tmp 7) = .pointer (some ⟨w.heap.size, 0, none⟩) := hA.eval 7 (fun j _ => by show 65 + j ≠ 7; omega)
          exact ⟨_, rfl, fun K' hk => wpIn_runs (fun c h => by cases h) (fun c h => by cases h) (gx_load _ (.tmp 7) rfl e7 (load_oneS Try.underlying3 rfl (HC7'.out w' hJ.ext))) (hk g w' (fun _ _ _ => rfl) (hJ.next (Ext.refl _) (by omega)))⟩
        | 3, _, hLi, hde =>
          have e17 : a'.eval (.tmp 17) = .pointer (some ⟨g17, 0, none⟩) := hA.eval 17 (fun j _ => by show 65 + j ≠ 17; omega)
          exact ⟨_, rfl, fun K' hk => wpIn_runs (fun c h => by cases h) (fun c h => by cases h) (gx_load _ (.tmp 17) rfl e17 (load_oneS Try.underlying30 rfl (HC17'.out w' hJ.ext))) (hk g w' (fun _ _ _ => rfl) (hJ.next (Ext.refl _) (by omega)))⟩
        | 4, _, hLi, hde =>
          have e21 : a'.eval (.tmp 21) = .slice (some ⟨gb, 0, none⟩) kl kl := hA.eval 21 (fun j _ => by show 65 + j ≠ 21; omega)
          exact ⟨_, rfl, fun K' hk => wpIn_runs (fun c h => by cases h) (fun c h => by cases h) (gx_move (.tmp 21) rfl e21) (hk g w' (fun _ _ _ => rfl) (hJ.next (Ext.refl _) (by omega)))⟩
        | 5, _, hLi, hde =>
          have e68 : a'.eval (.tmp 68) = .slice al ml cl := hA.at 3 (by omega) (hde 3 (by kernel_rfl))
          have e69 : a'.eval (.tmp 69) = .slice (some ⟨gb, 0, none⟩) kl kl := hA.at 4 (by omega) (hde 4 (by kernel_rfl))
          refine ⟨_, rfl, fun K' hk => wpIn_runs (w' := w'.alloc (.cells #[.slice al ml cl, .slice (some ⟨gb, 0, none⟩) kl kl] 30)) (v := .slice (some ⟨w'.heap.size, 0, none⟩) 2 2) (fun c h => by cases h) (fun c h => by cases h) ?_ ?_⟩
          · exact gx_bslice2 _ 2 (.tmp 68) (.tmp 69) rfl e68 e69 (bslice_two _ _ _ _ _ _ _)
          · exact hk (w'.heap.size, g.2) _ (fun j hj hl => r13V_5 (fun h => by rw [h, hLi] at hl; cases hl)) (hJ.at5 ((Ext.refl _).alloc _ _) _ (HMT.out w' hJ.ext))
        | 6, _, hLi, hde =>
          have e70 : a'.eval (.tmp 70) = .slice (some ⟨g.1, 0, none⟩) 2 2 := hA.at 5 (by omega) (hde 5 (by kernel_rfl))
          have hm := hJ.m1 (hde 5 (by kernel_rfl)) w' (Ext.refl _)
          refine ⟨_, rfl, fun K' hk => wpIn_callsV 35 Try.func35 HCI.out.1 HCI.out.2 [.tmp 70] _ rfl [.slice (some ⟨g.1, 0, none⟩) 2 2] (by simp only [List.map_cons, List.map_nil, e70]) (fun v w'' => (∃ ag cg, v = .slice ag ng cg ∧ Ints w'' ag ng fun i => (((goneL np T k).getD i 0 : Nat) : Int)) ∧ Ext w' w'') trivial (by omega) (CallsIn.inRound l (callsIn_wide.2 ((Concat_any (some ⟨g.1, 0, none⟩) 2 2 _ _ _ _ w' (by omega) hL2 hm).mono ?_))) ?_⟩
          · rintro e Wc ⟨⟨vg, rfl, hvg⟩, hxc⟩
            rw [HSN.out] at hvg
            obtain ⟨ag, cg, rfl, hgc⟩ := own_slice hvg
            exact ⟨_, rfl, ⟨ag, cg, rfl, fun i hi => (by obtain ⟨b, o, h1, h2⟩ := hgc i hi; exact ⟨b, o, h1, h2.trans (HCV.out i hi)⟩)⟩, hxc⟩
          · rintro v Wc ⟨⟨ag, cg, rfl, hIg⟩, hxc⟩
            exact hk (g.1, .slice ag ng cg, g.2.2) _ (fun j hj hl => r13V_6 (fun h => by rw [h, hLi] at hl; cases hl)) (hJ.at6 hxc _ fun Y y => ⟨ag, cg, rfl, hIg.ext y⟩)
        | 7, _, hLi, hde =>
          have e65 : a'.eval (.tmp 65) = .slice (some ⟨ga, 0, none⟩) np np := hA.at 0 (by omega) (hde 0 (by kernel_rfl))
          have e66 : a'.eval (.tmp 66) = .slice ac np cm := hA.at 1 (by omega) (hde 1 (by kernel_rfl))
          have e67 : a'.eval (.tmp 67) = .int .i64 p := hA.at 2 (by omega) (hde 2 (by kernel_rfl))
          have e71 : a'.eval (.tmp 71) = g.2.1 := hA.at 6 (by omega) (hde 6 (by kernel_rfl))
          obtain ⟨ag, cg, hvg, hIg⟩ := hJ.m2 (hde 6 (by kernel_rfl)) w' (Ext.refl _)
          rw [hvg] at e71
          have hXc := HXA.out.trans hJ.ext
          refine ⟨_, rfl, fun K' hk => wpIn_callsV 34 Try.func34 HWI.out.1 HWI.out.2 [.tmp 65, .tmp 66, .tmp 67, .tmp 71] _ rfl [.slice (some ⟨ga, 0, none⟩) np np, .slice ac np cm, .int .i64 p, .slice ag ng cg] (by simp only [List.map_cons, List.map_nil, e65, e66, e67, e71]) (fun v w'' => (∃ ad cd, v = .slice ad (128 * secs n) cd ∧ 128 * secs n ≤ cd ∧ cd ≤ 9223372036854775807 ∧ Byts w'' ad (128 * secs n) B) ∧ Ext w' w'') trivial (by omega) (CallsIn.inRound l (callsIn_wide.2 ((without_any (some ⟨ga, 0, none⟩) np np A' C' (gatZ np p L F) ac cm d p a (secs n) ag ng cg (fun i => (goneL np T k).getD i 0) w' HO.out HNP.out hkc hglt hgne hngp (HCW.out _ hXc) (HNW.out _ hXc) hIg).mono ?_))) ?_⟩
          · rintro e Wd ⟨⟨vd, rfl, hvd⟩, hxd⟩
            rw [HWB.out] at hvd
            obtain ⟨ad, cd, hv, hb⟩ := own_byts hvd
            exact ⟨_, rfl, ⟨ad, cd, hv, (own_cap hvd hv).1, (own_cap hvd hv).2, hb⟩, hxd⟩
          · rintro v Wd ⟨⟨ad, cd, rfl, hcd1, hcd2, hb⟩, hxd⟩
            exact hk (g.1, g.2.1, .slice ad (128 * secs n) cd) _ (fun j hj hl => r13V_7 (fun h => by rw [h, hLi] at hl; cases hl)) (hJ.at7 hxd _ fun Y y => ⟨ad, cd, rfl, hcd1, hcd2, hb.ext y⟩)
        | x + 8, h, _, _ => exact absurd h (by omega)
      · intro g Ls Wd hL' hJ
        obtain ⟨g1, vg, vd⟩ := g
        have HXd : Hid (Ext Wa Wd) := hJ.ext
        obtain ⟨ag, cg, hvg, _⟩ := hJ.m2 (hL' 6 (by omega)) Wd (Ext.refl _)
        obtain ⟨ad, cd, hvd, hcd1, hcd2, hBy⟩ := hJ.m3 (hL' 7 (by omega)) Wd (Ext.refl _)
        dsimp only at hvg hvd
        subst hvg
        subst hvd
        have HBY : Hid (Byts Wd ad (128 * secs n) B) := hBy
        clear hJ hL' hBy HCI HWI HC19' HC15' HC7' HC17' hc7 hc15 hc17 hc19 HMT hdst HSN HCV hglt hgne hngp HCW HNW
        simp only [List.drop_succ_cons, List.drop_zero]
        have hput : ∀ a0 : Act, putAll (fun i => 65 + i) (r13V (.slice (some ⟨ga, 0, none⟩) np np) (.slice ac np cm) (.int .i64 p) (.slice al ml cl) (.slice (some ⟨gb, 0, none⟩) kl kl) (g1, .slice ag ng cg, .slice ad (128 * secs n) cd)) a0 8 = ((((((((a0.put (some 65) (.slice (some ⟨ga, 0, none⟩) np np)).put (some 66) (.slice ac np cm)).put (some 67) (.int .i64 p)).put (some 68) (.slice al ml cl)).put (some 69) (.slice (some ⟨gb, 0, none⟩) kl kl)).put (some 70) (.slice (some ⟨g1, 0, none⟩) 2 2)).put (some 71) (.slice ag ng cg)).put (some 72) (.slice ad (128 * secs n) cd)) := fun _ => rfl
        rw [hput]
        simp only [Act.put, List.setIfInBounds_toArray, List.set_cons_succ, List.set_cons_zero]
        clear hput
        gi_wp2_with (first | (refine ⟨trivial, ?_⟩; gi_at_call 19; refine (CallsIn.inRound l (callsIn_wide.2 (Of_any ad (128 * secs n) cd B Wd hcd1 hcd2 HBY.out))).mono ?_) | fail)
        rintro e Wf ⟨rfl, hxf⟩
        have HXW : Hid (Ext W Wf) := (HXA.out.trans HXd.out).trans hxf
        have HBF : Hid (Byts Wf ad (128 * secs n) B) := HBY.out.ext hxf
        have HSB : Hid (sumB4 (secs n) s B = ((decide (moreV (128 * secs n) (fun _ => 0) B 0 = s 0) && decide (moreV (128 * secs n) (fun _ => 0) B 1 = s 1)) && (decide (moreV (128 * secs n) (fun _ => 0) B 2 = s 2) && decide (moreV (128 * secs n) (fun _ => 0) B 3 = s 3)))) := by
          show _ = _
          unfold sumB4
          rw [show List.range 4 = [0, 1, 2, 3] by rfl]
          simp only [List.all_cons, List.all_nil, Bool.and_true, Bool.and_assoc]
        generalize moreV (128 * secs n) (fun _ => 0) B 0 = V0 at *
        generalize moreV (128 * secs n) (fun _ => 0) B 1 = V1 at *
        generalize moreV (128 * secs n) (fun _ => 0) B 2 = V2 at *
        generalize moreV (128 * secs n) (fun _ => 0) B 3 = V3 at *
        have hb11 := HKB.out.1.block _ _ (extBlk HX09.out HB11.out) rfl
        have hb11f : ∀ Y, Ext Wf Y → Y.heap[w.heap.size + 1 + 1]? = some (.cells #[.int .i64 (s 0), .int .i64 (s 1), .int .i64 (s 2), .int .i64 (s 3)] 37 (0, 0)) := fun Y y => extBlk (HXW.out.trans y) hb11
        have HB11F : Hid (∀ Y, Ext Wf Y → Y.heap[w.heap.size + 1 + 1]? = some (.cells #[.int .i64 (s 0), .int .i64 (s 1), .int .i64 (s 2), .int .i64 (s 3)] 37 (0, 0))) := hb11f
        have hn128 : n ≤ 128 * secs n := by unfold secs; omega
        by_cases hall : (V0 = s 0 ∧ V1 = s 1) ∧ (V2 = s 2 ∧ V3 = s 3)
        · obtain ⟨⟨rfl, rfl⟩, rfl, rfl⟩ := hall
          have hxv := (Ext.refl Wf).alloc #[.int .i64 (s 0), .int .i64 (s 1), .int .i64 (s 2), .int .i64 (s 3)] 37
          have hx9v : Ext W (Wf.alloc (.cells #[.int .i64 (s 0), .int .i64 (s 1), .int .i64 (s 2), .int .i64 (s 3)] 37)) := HXW.out.trans hxv
          have hv0 : (Wf.alloc (.cells #[.int .i64 (s 0), .int .i64 (s 1), .int .i64 (s 2), .int .i64 (s 3)] 37)).cell? ⟨w.heap.size + 1 + 1, 0, none⟩ = some (.int .i64 (s 0)) := by rw [cell_of_row _ _ 0 _ _ _ (hb11f _ hxv)]; rfl
          have hv1 : (Wf.alloc (.cells #[.int .i64 (s 0), .int .i64 (s 1), .int .i64 (s 2), .int .i64 (s 3)] 37)).cell? ⟨w.heap.size + 1 + 1, 1, none⟩ = some (.int .i64 (s 1)) := by rw [cell_of_row _ _ 1 _ _ _ (hb11f _ hxv)]; rfl
          have hv2 : (Wf.alloc (.cells #[.int .i64 (s 0), .int .i64 (s 1), .int .i64 (s 2), .int .i64 (s 3)] 37)).cell? ⟨w.heap.size + 1 + 1, 2, none⟩ = some (.int .i64 (s 2)) := by rw [cell_of_row _ _ 2 _ _ _ (hb11f _ hxv)]; rfl
          have hv3 : (Wf.alloc (.cells #[.int .i64 (s 0), .int .i64 (s 1), .int .i64 (s 2), .int .i64 (s 3)] 37)).cell? ⟨w.heap.size + 1 + 1, 3, none⟩ = some (.int .i64 (s 3)) := by rw [cell_of_row _ _ 3 _ _ _ (hb11f _ hxv)]; rfl
          have hv9 : (Wf.alloc (.cells #[.int .i64 (s 0), .int .i64 (s 1), .int .i64 (s 2), .int .i64 (s 3)] 37)).cell? ⟨w.heap.size + 1, 0, none⟩ = some (.int .i64 n) := hx9v.keeps (HKB.out.1.keeps (HC9.out W9 HX09.out))
          have hb12 := extBlk hx9v (HKB.out.1.block _ _ (extBlk HX09.out HB12.out) rfl)
          have hb13 := extBlk hx9v (HKB.out.1.block _ _ (extBlk HX09.out HB13.out) rfl)
          have hb14 := extBlk hx9v (HKB.out.1.block _ _ (extBlk HX09.out HB14.out) rfl)
          have HB12V : Hid ((Wf.alloc (.cells #[.int .i64 (s 0), .int .i64 (s 1), .int .i64 (s 2), .int .i64 (s 3)] 37)).heap[w.heap.size + 1 + 1 + 1]? = some (.cells #[.slice none 0 0] 22 (0, 0))) := hb12
          have HB13V : Hid ((Wf.alloc (.cells #[.int .i64 (s 0), .int .i64 (s 1), .int .i64 (s 2), .int .i64 (s 3)] 37)).heap[w.heap.size + 1 + 1 + 1 + 1]? = some (.cells #[.slice none 0 0] 30 (0, 0))) := hb13
          have HB14V : Hid ((Wf.alloc (.cells #[.int .i64 (s 0), .int .i64 (s 1), .int .i64 (s 2), .int .i64 (s 3)] 37)).heap[w.heap.size + 1 + 1 + 1 + 1 + 1]? = some (.cells #[.int .i64 0] 24 (0, 0))) := hb14
          have HBV : Hid (Byts (Wf.alloc (.cells #[.int .i64 (s 0), .int .i64 (s 1), .int .i64 (s 2), .int .i64 (s 3)] 37)) ad n B) := (show Byts _ ad n B from fun i hi => (HBF.out.ext hxv) i (by omega))
          have HIV : Hid (Ints (Wf.alloc (.cells #[.int .i64 (s 0), .int .i64 (s 1), .int .i64 (s 2), .int .i64 (s 3)] 37)) (some ⟨gb, 0, none⟩) kl fun i => (((badL np T k).getD i 0 : Nat) : Int)) := HBAD.out.ext ((HXd.out.trans hxf).trans hxv)
          have HXV : Hid (Ext W (Wf.alloc (.cells #[.int .i64 (s 0), .int .i64 (s 1), .int .i64 (s 2), .int .i64 (s 3)] 37))) := hx9v
          clear hxf HXd HBY hb11 hb11f hxv hb12 hb13 hb14 hx9v
          gi_upto_region 16 with fail
          generalize Wf.alloc (.cells #[.int .i64 (s 0), .int .i64 (s 1), .int .i64 (s 2), .int .i64 (s 3)] 37) = Wv at *
          clear hv0 hv1 hv2 hv3
          have hc12 := row1_cell HB12V.out
          have hf12 := frozen_of_row _ _ 0 _ _ HB12V.out
          have hb13' : (Wv.setCell ⟨w.heap.size + 1 + 1 + 1, 0, none⟩ (.slice ad n n)).heap[w.heap.size + 1 + 1 + 1 + 1]? = some (.cells #[.slice none 0 0] 30 (0, 0)) := (row1_oth (by omega) _).trans HB13V.out
          have hb14' : ((Wv.setCell ⟨w.heap.size + 1 + 1 + 1, 0, none⟩ (.slice ad n n)).setCell ⟨w.heap.size + 1 + 1 + 1 + 1, 0, none⟩ (.slice (some ⟨gb, 0, none⟩) kl kl)).heap[w.heap.size + 1 + 1 + 1 + 1 + 1]? = some (.cells #[.int .i64 0] 24 (0, 0)) := (row1_oth (by omega) _).trans ((row1_oth (by omega) _).trans HB14V.out)
          have hc13 := row1_cell hb13'
          have hf13 := frozen_of_row _ _ 0 _ _ hb13'
          have hc14 := row1_cell hb14'
          have hf14 := frozen_of_row _ _ 0 _ _ hb14'
          clear hb13' hb14'
          have hsl := sub_hm (P := Try.prog) Try.underlying22 size8 ad (128 * secs n) cd n (by omega) Wv
          gi_wp2_with fail
          have hko : KeepsOthers W Wv := ⟨HXV.out.size, fun k o hk _ => (HXV.out.below.block k (Array.getElem?_eq_some_iff.1 hk).1).trans hk⟩
          have hgf : gatF d p (secs n) T L F s = some k := gat_some HA.out HNO.out HAK.out (by rw [HBB.out, HSB.out]; simp)
          have hbl : Below w.heap.size w Wv := (HXw.out.below.trans (HKB.out.2.mono HXw.out.size)).trans (HXV.out.below.mono (Nat.le_trans HXw.out.size HKB.out.1.size))
          exact ⟨((hko.trans (KeepsOthers.setCell _ _ _)).trans (KeepsOthers.setCell _ _ _)).trans (KeepsOthers.setCell _ _ _), GatX.make kl kl hbl hgf HKL.out HB12V.out HB13V.out HB14V.out (by omega) (by rw [HBB.out]; exact HBV.out) (by have := HGB.out; omega) (by rw [← HNP.out]; exact HIV.out)⟩
        · have hxv := (Ext.refl Wf).alloc #[.int .i64 V0, .int .i64 V1, .int .i64 V2, .int .i64 V3] 37
          have hv0 : (Wf.alloc (.cells #[.int .i64 V0, .int .i64 V1, .int .i64 V2, .int .i64 V3] 37)).cell? ⟨w.heap.size + 1 + 1, 0, none⟩ = some (.int .i64 (s 0)) := by rw [cell_of_row _ _ 0 _ _ _ (hb11f _ hxv)]; rfl
          have hv1 : (Wf.alloc (.cells #[.int .i64 V0, .int .i64 V1, .int .i64 V2, .int .i64 V3] 37)).cell? ⟨w.heap.size + 1 + 1, 1, none⟩ = some (.int .i64 (s 1)) := by rw [cell_of_row _ _ 1 _ _ _ (hb11f _ hxv)]; rfl
          have hv2 : (Wf.alloc (.cells #[.int .i64 V0, .int .i64 V1, .int .i64 V2, .int .i64 V3] 37)).cell? ⟨w.heap.size + 1 + 1, 2, none⟩ = some (.int .i64 (s 2)) := by rw [cell_of_row _ _ 2 _ _ _ (hb11f _ hxv)]; rfl
          have hv3 : (Wf.alloc (.cells #[.int .i64 V0, .int .i64 V1, .int .i64 V2, .int .i64 V3] 37)).cell? ⟨w.heap.size + 1 + 1, 3, none⟩ = some (.int .i64 (s 3)) := by rw [cell_of_row _ _ 3 _ _ _ (hb11f _ hxv)]; rfl
          have HNF : Hid (sumB4 (secs n) s B = false) := by
            show _ = _
            rw [HSB.out]
            cases e : ((decide (V0 = s 0) && decide (V1 = s 1)) && (decide (V2 = s 2) && decide (V3 = s 3))) with
            | false => rfl
            | true =>
              simp only [Bool.and_eq_true, decide_eq_true_eq] at e
              exact absurd e hall
          clear hxf HXd HBY hb11 hb11f hxv HSB
          gi_upto_region 16 with fail
          all_goals first
            | exact absurd ⟨⟨rfl, rfl⟩, rfl, rfl⟩ hall
            | (refine ⟨HXW.out.alloc _ _, HKB.out.trans (Kb.ext (HXW.out.alloc _ _) HKB.out.1.size), fun i k' hi hk' => ?_⟩
               by_cases e : i < x
               · exact HNO.out i k' e hk'
               · have ei : i = x := by omega
                 subst ei
                 rw [HAK.out] at hk'
                 cases hk'
                 rw [HBB.out]
                 exact HNF.out)
    case done =>
      rintro D W hD ⟨hkb, hno⟩ hK
      have h12 := hkb.1.block _ _ (extBlk HX09.out HB12.out) rfl
      have h13 := hkb.1.block _ _ (extBlk HX09.out HB13.out) rfl
      have h14 := hkb.1.block _ _ (extBlk HX09.out HB14.out) rfl
      have HS3 : Hid _ := three_set h12 h13 h14 (.slice none 0 0) (.slice none 0 0) (.int .i64 11)
      have hc12 := row1_cell h12
      have hf12 := frozen_of_row _ _ 0 _ _ h12
      have hb13' : (W.setCell ⟨w.heap.size + 1 + 1 + 1, 0, none⟩ (.slice none 0 0)).heap[w.heap.size + 1 + 1 + 1 + 1]? = some (.cells #[.slice none 0 0] 30 (0, 0)) := (row1_oth (by omega) _).trans h13
      have hb14' : ((W.setCell ⟨w.heap.size + 1 + 1 + 1, 0, none⟩ (.slice none 0 0)).setCell ⟨w.heap.size + 1 + 1 + 1 + 1, 0, none⟩ (.slice none 0 0)).heap[w.heap.size + 1 + 1 + 1 + 1 + 1]? = some (.cells #[.int .i64 0] 24 (0, 0)) := (row1_oth (by omega) _).trans ((row1_oth (by omega) _).trans h14)
      have hc13 := row1_cell hb13'
      have hf13 := frozen_of_row _ _ 0 _ _ hb13'
      have hc14 := row1_cell hb14'
      have hf14 := frozen_of_row _ _ 0 _ _ hb14'
      have HKK : Hid (W.heap[D]? = some (.deferred (some []))) := hK
      have HKB : Hid (Kb W9.heap.size W9 W) := hkb
      have HNO : Hid (∀ i k, i < All.length → All[i]? = some k → sumB4 (secs n) s (gatP d p (secs n) T L F k) = false) := hno
      clear h12 h13 h14 hb13' hb14' hkb hno hK
      go_wp2_with fail
      have hD6 : w.heap.size + 6 ≤ D := by
        have h2 := HX09.out.size
        rw [hs0] at h2
        omega
      have hK2 : (((W.setCell ⟨w.heap.size + 1 + 1 + 1, 0, none⟩ (.slice none 0 0)).setCell ⟨w.heap.size + 1 + 1 + 1 + 1, 0, none⟩ (.slice none 0 0)).setCell ⟨w.heap.size + 1 + 1 + 1 + 1 + 1, 0, none⟩ (.int .i64 11)).heap[D]? = some (.deferred (some [])) := by
        rw [row1_oth (by omega), row1_oth (by omega), row1_oth (by omega)]
        exact HKK.out
      have hbl : Below w.heap.size w W := HXw.out.below.trans (HKB.out.2.mono HXw.out.size)
      have hbl2 := ((hbl.setCell (p := ⟨w.heap.size + 1 + 1 + 1, 0, none⟩) (show w.heap.size ≤ w.heap.size + 1 + 1 + 1 by omega) (.slice none 0 0)).setCell (p := ⟨w.heap.size + 1 + 1 + 1 + 1, 0, none⟩) (show w.heap.size ≤ w.heap.size + 1 + 1 + 1 + 1 by omega) (.slice none 0 0)).setCell (p := ⟨w.heap.size + 1 + 1 + 1 + 1 + 1, 0, none⟩) (show w.heap.size ≤ w.heap.size + 1 + 1 + 1 + 1 + 1 by omega) (.int .i64 11)
      refine ⟨by simp, .inl ⟨_, _, rfl, run_takeDeferred hK2, ?_⟩⟩
      obtain ⟨s1, s2, s3⟩ := HS3.out
      refine ⟨_, res_three ((World.putObj_heap_other (by omega)).trans s1) ((World.putObj_heap_other (by omega)).trans s2) ((World.putObj_heap_other (by omega)).trans s3) rfl _ rfl rfl rfl, ?_, ⟨hbl2.trans (Kb.put (n₀ := w.heap.size) _ hK2 rfl (by omega)).2⟩⟩
      unfold GatRes
      rw [gat_none HA.out HNO.out]
    case stop =>
      rintro D W hD hg hK
      obtain ⟨hx, k, ad, ab, cb, hgf, h12, h13, h14, hby, hin⟩ := hg
      have hD6 : w.heap.size + 6 ≤ D := by
        have h2 := HX09.out.size
        rw [hs0] at h2
        omega
      have hkc := (Kc.refl W).put (o' := .deferred none) hK rfl
      gi_wp2
      refine ⟨by simp, .inl ⟨_, _, rfl, run_takeDeferred hK, ?_⟩⟩
      refine ⟨_, res_three ((World.putObj_heap_other (by omega)).trans h12) ((World.putObj_heap_other (by omega)).trans h13) ((World.putObj_heap_other (by omega)).trans h14) rfl _ rfl rfl rfl, ?_, ⟨hx.trans (Kb.put (n₀ := w.heap.size) _ hK rfl (by omega)).2⟩⟩
      unfold GatRes
      rw [hgf]
      exact ⟨ad, ab, cb, rfl, hkc.byts hby, hkc.ints hin⟩
end Go.Proofs.Ythgbfakmkdifbaa
/-
  stripe.Gather where too many are lost.
-/
namespace Go.Proofs.Ythgbfakmkdifbaa
open Go.RowKit Go.Shelf Go.Deep E
attribute [local go_sem] Oper.semAt_some
set_option maxRecDepth 100000 in
set_option maxHeartbeats 8000000 in
theorem Gather_many (d p a n : Nat) (ap : Option Addr) (np cp : Nat) (T : Nat → Bool) (A : Nat → Option Addr) (L C : Nat → Nat) (F : Nat → Nat → E) (s : Nat → Int) (w : World) (ho : StOk d p (secs n)) (ha : a ≤ 65536) (hs : szOk n = true) (hnp : np = colN d p (secs n))
    (hf : fitN np T L (wdB d p (secs n)) = true) (hl : p < (plcs np T true).length) (hL : ∀ r, r < np → L r ≤ 9223372036854775807) (h : Pcs w ap np T A L C F) :
    Calls Try.prog 17 #[.int .i64 d, .int .i64 p, .int .i64 a, .int .i64 n, .slice ap np cp, .agg #[.int .i64 (s 0), .int .i64 (s 1), .int .i64 (s 2), .int .i64 (s 3)]] w fun e w' => e = .returned (.tuple #[.slice none 0 0, .slice none 0 0, .int .i64 12]) ∧ Ext w w' := by
  have HP : Hid (Pcs w ap np T A L C F) := h
  go_enter Try.func17, Try.ntmps17
  go_upto_region 1 with fail
  obtain ⟨W0, hW0⟩ : ∃ W0, ((((((w.alloc (.cells #[.int .i64 p] 3)).alloc (.cells #[.int .i64 n] 3)).alloc (.cells #[.int .i64 (s 0), .int .i64 (s 1), .int .i64 (s 2), .int .i64 (s 3)] 37)).alloc (.cells #[.slice none 0 0] 22)).alloc (.cells #[.slice none 0 0] 30)).alloc (.cells #[.int .i64 0] 24)) = W0 := ⟨_, rfl⟩
  have hs0 : W0.heap.size = w.heap.size + 6 := by rw [← hW0]; simp
  have HX0 : Hid (Ext w W0) := by show Ext w W0; rw [← hW0]; exact (((((((Ext.refl w).alloc _ _).alloc _ _).alloc _ _).alloc _ _).alloc _ _).alloc _ _)
  have HB7 : Hid (W0.heap[w.heap.size]? = some (.cells #[.int .i64 p] 3 (0, 0))) := by
    show _ = _
    rw [← hW0]
    exact extBlk ((((((Ext.refl _).alloc _ _).alloc _ _).alloc _ _).alloc _ _).alloc _ _) (heap_alloc_new w _)
  have HB9 : Hid (W0.heap[w.heap.size + 1]? = some (.cells #[.int .i64 n] 3 (0, 0))) := by
    show _ = _
    rw [← hW0]
    have h := heap_alloc_new (w.alloc (.cells #[.int .i64 p] 3)) (.cells #[.int .i64 n] 3)
    rw [World.size_alloc] at h
    exact extBlk (((((Ext.refl _).alloc _ _).alloc _ _).alloc _ _).alloc _ _) h
  have HB11 : Hid (W0.heap[w.heap.size + 1 + 1]? = some (.cells #[.int .i64 (s 0), .int .i64 (s 1), .int .i64 (s 2), .int .i64 (s 3)] 37 (0, 0))) := by
    show _ = _
    rw [← hW0]
    have h := heap_alloc_new ((w.alloc (.cells #[.int .i64 p] 3)).alloc (.cells #[.int .i64 n] 3)) (.cells #[.int .i64 (s 0), .int .i64 (s 1), .int .i64 (s 2), .int .i64 (s 3)] 37)
    rw [World.size_alloc, World.size_alloc] at h
    exact extBlk ((((Ext.refl _).alloc _ _).alloc _ _).alloc _ _) h
  have HB12 : Hid (W0.heap[w.heap.size + 1 + 1 + 1]? = some (.cells #[.slice none 0 0] 22 (0, 0))) := by
    show _ = _
    rw [← hW0]
    have h := heap_alloc_new (((w.alloc (.cells #[.int .i64 p] 3)).alloc (.cells #[.int .i64 n] 3)).alloc (.cells #[.int .i64 (s 0), .int .i64 (s 1), .int .i64 (s 2), .int .i64 (s 3)] 37)) (.cells #[.slice none 0 0] 22)
    rw [World.size_alloc, World.size_alloc, World.size_alloc] at h
    exact extBlk (((Ext.refl _).alloc _ _).alloc _ _) h
  have HB13 : Hid (W0.heap[w.heap.size + 1 + 1 + 1 + 1]? = some (.cells #[.slice none 0 0] 30 (0, 0))) := by
    show _ = _
    rw [← hW0]
    have h := heap_alloc_new ((((w.alloc (.cells #[.int .i64 p] 3)).alloc (.cells #[.int .i64 n] 3)).alloc (.cells #[.int .i64 (s 0), .int .i64 (s 1), .int .i64 (s 2), .int .i64 (s 3)] 37)).alloc (.cells #[.slice none 0 0] 22)) (.cells #[.slice none 0 0] 30)
    rw [World.size_alloc, World.size_alloc, World.size_alloc, World.size_alloc] at h
    exact extBlk ((Ext.refl _).alloc _ _) h
  have HB14 : Hid (W0.heap[w.heap.size + 1 + 1 + 1 + 1 + 1]? = some (.cells #[.int .i64 0] 24 (0, 0))) := by
    show _ = _
    rw [← hW0]
    have h := heap_alloc_new (((((w.alloc (.cells #[.int .i64 p] 3)).alloc (.cells #[.int .i64 n] 3)).alloc (.cells #[.int .i64 (s 0), .int .i64 (s 1), .int .i64 (s 2), .int .i64 (s 3)] 37)).alloc (.cells #[.slice none 0 0] 22)).alloc (.cells #[.slice none 0 0] 30)) (.cells #[.int .i64 0] 24)
    rw [World.size_alloc, World.size_alloc, World.size_alloc, World.size_alloc, World.size_alloc] at h
    exact h
  rw [hW0]
  clear hW0
  have HC7 : Hid (∀ u, Ext W0 u → u.cell? ⟨w.heap.size, 0, none⟩ = some (.int .i64 p)) := fun u x => by rw [cell_of_row _ _ 0 _ _ _ (extBlk x HB7.out)]; rfl
  have HC9 : Hid (∀ u, Ext W0 u → u.cell? ⟨w.heap.size + 1, 0, none⟩ = some (.int .i64 n)) := fun u x => by rw [cell_of_row _ _ 0 _ _ _ (extBlk x HB9.out)]; rfl
  have HO : Hid (StOk d p (secs n)) := ho
  have HSZ : Hid (szOk n = true) := hs
  have HNP : Hid (np = colN d p (secs n)) := hnp
  have HF : Hid (fitN np T L (wdB d p (secs n)) = true) := hf
  have HLB : Hid (∀ r, r < np → L r ≤ 9223372036854775807) := hL
  have hst := ok_st ho ha hs
  have HST : Hid (stOkB d p a n = true) := hst
  have hsn := (szOk_iff n).1 hs
  have hN := ho.N
  rw [← hnp] at hN
  have hpb := ho.p1
  have hpb3 := ho.p3
  have HCO := columnsOf_any d p a n n W0 (fun _ => rfl) (fun h => by rw [hs] at h; cases h)
  rw [stE_ok hst] at HCO
  clear h ho hs hnp hf hL hst
  have c7 := HC7.out W0 (Ext.refl _)
  have c9 := HC9.out W0 (Ext.refl _)
  go_wp2_with fail
  refine HCO.mono ?_
  rintro e W1 ⟨⟨ac, k, cm, rfl, hcn⟩, hx1⟩
  obtain ⟨hkn, hkc, hCn⟩ := hcn HST.out
  rw [Int.toNat_natCast, Int.toNat_natCast] at hkn
  rw [Int.toNat_natCast, Int.toNat_natCast, Int.toNat_natCast] at hCn
  have hk : np = k := by rw [HNP.out, hkn]
  subst hk
  clear hkn hcn c7 c9 HCO
  go_upto_region 2 with fail
  obtain ⟨W2, hW2⟩ : ∃ W2, W1.alloc (.cells #[.slice ac np cm] 51) = W2 := ⟨_, rfl⟩
  have HX2 : Hid (Ext W0 W2) := by show Ext W0 W2; rw [← hW2]; exact hx1.alloc _ _
  have HC15 : Hid (∀ u, Ext W2 u → u.cell? ⟨W1.heap.size, 0, none⟩ = some (.slice ac np cm)) := fun u x => x.keeps (by rw [← hW2, new_cell]; rfl)
  have HCN : Hid (CnS W2 ac d p a (secs n) 0 np) := by show CnS W2 ac d p a (secs n) 0 np; rw [← hW2]; exact hCn.ext ((Ext.refl W1).alloc _ _)
  obtain ⟨g15, hg15⟩ : ∃ g, W1.heap.size = g := ⟨_, rfl⟩
  rw [hg15] at HC15 ⊢
  rw [hW2]
  clear hW2 hg15 hCn hx1
  have c15 := HC15.out W2 (Ext.refl _)
  go_wp2_with fail
  refine (fit_any ap np cp T A L C F ac np cm d p a (secs n) W2 (by omega) hN.2 HLB.out HO.out HNP.out (HP.out.ext (HX0.out.trans HX2.out)) HCN.out).mono ?_
  rintro e W3 ⟨rfl, hx3⟩
  have hft : (decide (np = np) && fitN np T L (wdB d p (secs n))) = true := by rw [HF.out]; simp
  rw [hft]
  clear c15 hft
  go_wp2_with fail
  refine (stPlaces_any ap np cp T A L C F true W3 (by omega) (HP.out.ext ((HX0.out.trans HX2.out).trans hx3))).mono ?_
  rintro e W4 ⟨⟨vl, rfl, hvl⟩, hx4⟩
  go_wp2_with fail
  refine (stPlaces_any ap np cp T A L C F false W4 (by omega) (HP.out.ext (((HX0.out.trans HX2.out).trans hx3).trans hx4))).mono ?_
  rintro e W5 ⟨⟨vk, rfl, hvk⟩, hx5⟩
  obtain ⟨al, cl, hvl2, hIl⟩ := own_places hvl
  obtain ⟨ak, ck, hvk2, hIk⟩ := own_places hvk
  subst hvl2
  subst hvk2
  obtain ⟨ml, hml⟩ : ∃ ml, (plcs np T true).length = ml := ⟨_, rfl⟩
  obtain ⟨mk, hmk⟩ : ∃ mk, (plcs np T false).length = mk := ⟨_, rfl⟩
  have hsp : ml + mk = np := by
    rw [← hml, ← hmk]
    exact plcs_len np T
  rw [hml] at hl hIl ⊢
  rw [hmk] at hIk ⊢
  have HML : Hid ((plcs np T true).length = ml) := hml
  have HMK : Hid ((plcs np T false).length = mk) := hmk
  have HX5 : Hid (Ext W2 W5) := (hx3.trans hx4).trans hx5
  have HIL : Hid (Ints W5 al ml fun i => (((plcs np T true).getD i 0 : Nat) : Int)) := hIl.ext hx5
  have HIK : Hid (Ints W5 ak mk fun i => (((plcs np T false).getD i 0 : Nat) : Int)) := hIk
  clear hvl hvk hIl hIk hml hmk hx3 hx4 hx5
  go_upto_region 7 with fail
  have hmlp : ((p : Int) < (ml : Int)) := by omega
  obtain ⟨W6, hW6⟩ : ∃ W6, (W5.alloc (.cells #[.slice al ml cl] 30)).alloc (.cells #[.slice ak mk ck] 30) = W6 := ⟨_, rfl⟩
  have hx6 : Ext W0 W6 := (HX2.out.trans HX5.out).trans (by rw [← hW6]; exact ((Ext.refl _).alloc _ _).alloc _ _)
  have HX6 : Hid (Ext w W6) := HX0.out.trans hx6
  have hc7 : W6.cell? ⟨w.heap.size, 0, none⟩ = some (.int .i64 p) := HC7.out W6 hx6
  have hc17 : W6.cell? ⟨W5.heap.size, 0, none⟩ = some (.slice al ml cl) := by
    rw [← hW6]
    exact alloc_keeps (by rw [new_cell]; rfl) _
  have h12 := extBlk hx6 HB12.out
  have h13 := extBlk hx6 HB13.out
  have h14 := extBlk hx6 HB14.out
  have HS3 : Hid _ := three_set h12 h13 h14 (.slice none 0 0) (.slice none 0 0) (.int .i64 12)
  have hc12 := row1_cell h12
  have hf12 := frozen_of_row _ _ 0 _ _ h12
  have hb13' : (W6.setCell ⟨w.heap.size + 1 + 1 + 1, 0, none⟩ (.slice none 0 0)).heap[w.heap.size + 1 + 1 + 1 + 1]? = some (.cells #[.slice none 0 0] 30 (0, 0)) := (row1_oth (by omega) _).trans h13
  have hb14' : ((W6.setCell ⟨w.heap.size + 1 + 1 + 1, 0, none⟩ (.slice none 0 0)).setCell ⟨w.heap.size + 1 + 1 + 1 + 1, 0, none⟩ (.slice none 0 0)).heap[w.heap.size + 1 + 1 + 1 + 1 + 1]? = some (.cells #[.int .i64 0] 24 (0, 0)) := (row1_oth (by omega) _).trans ((row1_oth (by omega) _).trans h14)
  have hc13 := row1_cell hb13'
  have hf13 := frozen_of_row _ _ 0 _ _ hb13'
  have hc14 := row1_cell hb14'
  have hf14 := frozen_of_row _ _ 0 _ _ hb14'
  clear h12 h13 h14 hb13' hb14' hx6
  rw [hW6]
  clear hW6
  go_wp2_with fail
  trace_state
  obtain ⟨s1, s2, s3⟩ := HS3.out
  refine bodyPost_ret (res_three s1 s2 s3 rfl _ rfl rfl rfl) rfl ?_
  exact ⟨rfl, ((HX6.out.setCell (p := ⟨w.heap.size + 1 + 1 + 1, 0, none⟩) (show w.heap.size ≤ w.heap.size + 1 + 1 + 1 by omega) _).setCell (p := ⟨w.heap.size + 1 + 1 + 1 + 1, 0, none⟩) (show w.heap.size ≤ w.heap.size + 1 + 1 + 1 + 1 by omega) _).setCell (p := ⟨w.heap.size + 1 + 1 + 1 + 1 + 1, 0, none⟩) (show w.heap.size ≤ w.heap.size + 1 + 1 + 1 + 1 + 1 by omega) _⟩
end Go.Proofs.Ythgbfakmkdifbaa
/-
  quicksetkeep.laid: a block's columns as pieces, in new memory, and its sum.
-/
namespace Go.Proofs.Ythgbfakmkdifbaa
open Go.RowKit Go.Deep E
def pcC (A : Nat → Option Addr) (L C : Nat → Nat) (S : Nat → Bool) (r : Nat) : List Value := if S r then [.bool true, .slice none 0 0] else [.bool false, .slice (A r) (L r) (C r)]
theorem pcC_len (A : Nat → Option Addr) (L C : Nat → Nat) (S : Nat → Bool) (r : Nat) : (pcC A L C S r).length = 2 := by unfold pcC; split <;> rfl
theorem infoPc : (Try.prog.info? 42).map (fun i => (i.zero, i.size, i.bytes)) = some (some (.agg #[.bool false, .slice none 0 0]), 2, 32) := by kernel_rfl
def sumVs (c : Nat) (B : Nat → E) : Value := .agg #[.int .i64 (moreV (128 * c) (fun _ => 0) B 0), .int .i64 (moreV (128 * c) (fun _ => 0) B 1), .int .i64 (moreV (128 * c) (fun _ => 0) B 2), .int .i64 (moreV (128 * c) (fun _ => 0) B 3)]
/-- the pieces lie there, those of S lost -/
def Laid (w w' : World) (v : Value) (d p c n : Nat) (f : Nat → E) (A : Nat → Option Addr) (C : Nat → Nat) (S : Nat → Bool) : Prop :=
  ∃ wm, Ext w wm ∧ Ext wm w' ∧ (∀ r, r < colN d p c → Byts wm (A r) (wdB d p c r) (layF d p c n f r)) ∧ w'.ownsRow wm.heap.size 42 2 v (colN d p c) ((List.range (colN d p c)).map (pcC A (wdB d p c) C S)).flatten
theorem Ext.both {a b : World} (h : Ext a b) (p : Addr) (_hp : p.block < a.heap.size) (u : Value) : Ext (a.setCell p u) (b.setCell p u) := by
  refine ⟨h.below.os, h.below.tape, h.below.output, ?_, fun k hk => ?_⟩
  · have := h.below.size
    simpa [World.setCell] using this
  · have hk' : k < a.heap.size := by simpa [World.setCell] using hk
    have := h.below.block k hk'
    simp only [World.setCell, Array.getElem?_modify, this]
theorem results_tct {P : Program} {fn : Func} {x y z : Tmp} {t : TypeId} (h : fn.results = #[.tmp x, .cell y t, .tmp z]) (tmps : Array Value) (w : World) (g : Nat) (t2 : TypeId) (cs : Array Value) (fr : Nat × Nat) (d : TypeDesc)
    (hp : tmps.getD y undef = .pointer (some ⟨g, 0, none⟩)) (hg : w.heap[g]? = some (.cells cs t2 fr)) (hu : P.underlying t = some d) (hd : (match d with | .struct _ | .array _ _ => true | _ => false) = true) (hi : (P.info? t).map (·.size) = some cs.size) :
    (results fn tmps).run P w = .ok (.tuple #[tmps.getD x undef, .agg cs, tmps.getD z undef]) w := by
  have hp' : tmps[y]?.getD undef = .pointer (some ⟨g, 0, none⟩) := by simpa using hp
  simp [results, h, hp', asAddr, run_loadVar_row w g t2 t cs fr d hg hu hd hi]
theorem sumInfo : (Try.prog.info? 37).map (·.size) = some 4 := by kernel_rfl
set_option maxRecDepth 100000 in
set_option maxHeartbeats 1600000 in
theorem laid_any (d p a n : Nat) (b : Option Addr) (cn : Nat) (f : Nat → E) (w : World) (ho : StOk d p (secs n)) (ha : a ≤ 65536) (hs : szOk n = true) (h : Byts w b n f) :
    Calls Try.prog 15 #[.int .i64 d, .int .i64 p, .int .i64 a, .slice b n cn] w fun e w' => ∃ v A C, e = .returned (.tuple #[v, sumVs (secs n) (padZ n f), .bool true]) ∧ Laid w w' v d p (secs n) n f A C (fun _ => false) := by
  have HB : Hid (Byts w b n f) := h
  have HST : Hid (stOkB d p a n = true) := ok_st ho ha hs
  have hsn := (szOk_iff n).1 hs
  have hN := ho.N
  obtain ⟨N, hNN⟩ : ∃ N, colN d p (secs n) = N := ⟨_, rfl⟩
  have HN : Hid (colN d p (secs n) = N) := hNN
  rw [hNN] at hN
  have HME : Hid (moreE (128 * secs n) = 0) := by
    show _ = _
    unfold moreE
    rw [if_pos (by omega)]
  clear h ho ha hs hNN
  go_enter Try.func15, Try.ntmps15
  go_wp2_with fail
  obtain ⟨W0, hW0⟩ : ∃ W0, (w.alloc (.cells #[.int .i64 0, .int .i64 0, .int .i64 0, .int .i64 0] 37)) = W0 := ⟨_, rfl⟩
  have HX0 : Hid (Ext w W0) := by show Ext w W0; rw [← hW0]; exact (Ext.refl w).alloc _ _
  have HB0 : Hid (W0.heap[w.heap.size]? = some (.cells #[.int .i64 0, .int .i64 0, .int .i64 0, .int .i64 0] 37 (0, 0))) := by show _ = _; rw [← hW0]; exact heap_alloc_new _ _
  have hs0 : W0.heap.size = w.heap.size + 1 := by rw [← hW0]; simp
  rw [hW0]
  clear hW0
  refine (Lay_any d p a b n cn f W0 (by omega) (HB.out.ext HX0.out)).mono ?_
  rintro e W1 ⟨hr, hx1⟩
  unfold LayRes at hr
  rw [HST.out, if_pos rfl] at hr
  obtain ⟨al, cl, A, C, rfl, hC⟩ := hr
  rw [Int.toNat_natCast, Int.toNat_natCast] at hC ⊢
  rw [HN.out] at hC ⊢
  have HX1 : Hid (Ext w W1) := HX0.out.trans hx1
  have HX01 : Hid (Ext W0 W1) := hx1
  have HC1 : Hid (Cols W1 al N A (wdB d p (secs n)) C (layF d p (secs n) n f)) := hC
  clear hC hx1
  go_wp2_with fail
  refine (padded_any b n cn f W1 (by omega) (HB.out.ext HX1.out)).mono ?_
  rintro e W2 ⟨⟨vp, rfl, hvp⟩, hx2⟩
  obtain ⟨ad, cd, rfl, hby, hcd1, hcd2⟩ := own_room hvp
  have HBY : Hid (Byts W2 ad (128 * secs n) (padZ n f)) := hby
  have HX2 : Hid (Ext W1 W2) := hx2
  clear hvp hby hx2
  go_wp2_with fail
  refine (Of_any ad (128 * secs n) cd (padZ n f) W2 hcd1 hcd2 HBY.out).mono ?_
  rintro e W3 ⟨rfl, hx3⟩
  rw [HME.out]
  have hlen : ¬ (N : Int) ≤ (p : Int) := by omega
  have HX3 : Hid (Ext W1 W3) := HX2.out.trans hx3
  clear hx3
  obtain ⟨SV, hSV⟩ : ∃ SV, sumVs (secs n) (padZ n f) = SV := ⟨_, rfl⟩
  unfold sumVs at hSV
  obtain ⟨V0, h0⟩ : ∃ V, moreV (128 * secs n) (fun _ => 0) (padZ n f) 0 = V := ⟨_, rfl⟩
  obtain ⟨V1, h1⟩ : ∃ V, moreV (128 * secs n) (fun _ => 0) (padZ n f) 1 = V := ⟨_, rfl⟩
  obtain ⟨V2, h2⟩ : ∃ V, moreV (128 * secs n) (fun _ => 0) (padZ n f) 2 = V := ⟨_, rfl⟩
  obtain ⟨V3, h3⟩ : ∃ V, moreV (128 * secs n) (fun _ => 0) (padZ n f) 3 = V := ⟨_, rfl⟩
  have HSV : Hid (sumVs (secs n) (padZ n f) = .agg #[.int .i64 V0, .int .i64 V1, .int .i64 V2, .int .i64 V3]) := by
    show _ = _
    unfold sumVs
    rw [h0, h1, h2, h3]
  rw [h0, h1, h2, h3]
  clear h0 h1 h2 h3 hSV SV
  have hdec : decide (N ≤ p) = false := by rw [decide_eq_false_iff_not]; omega
  go_upto_region 5 with fail
  try rw [hdec]
  clear hdec
  obtain ⟨W4, hW4⟩ : ∃ W4, (W3.alloc (.cells #[.int .i64 V0, .int .i64 V1, .int .i64 V2, .int .i64 V3] 37)) = W4 := ⟨_, rfl⟩
  have hx14 : Ext W1 W4 := by rw [← hW4]; exact HX3.out.alloc _ _
  have HX4 : Hid (Ext W1 W4) := hx14
  have HB4 : Hid (W4.heap[W3.heap.size]? = some (.cells #[.int .i64 V0, .int .i64 V1, .int .i64 V2, .int .i64 V3] 37 (0, 0))) := by show _ = _; rw [← hW4]; exact heap_alloc_new _ _
  have HC4 : Hid (Cols W4 al N A (wdB d p (secs n)) C (layF d p (secs n) n f)) := HC1.out.ext hx14
  obtain ⟨g13, hg13⟩ : ∃ g, W3.heap.size = g := ⟨_, rfl⟩
  rw [hg13] at HB4 ⊢
  rw [hW4]
  clear hW4 hx14 hg13
  go_wp2_with fail
  go_loopw [15, 16] (fun v i wr => ∃ k : Nat, k ≤ N ∧ i = .int .i64 k ∧ Ext W4 wr ∧ wr.ownsRow W4.heap.size 42 2 v k ((List.range k).map (pcC A (wdB d p (secs n)) C fun _ => false)).flatten) (fun _ i _ => N - (intOf i).toNat)
  case atStart => exact ⟨0, Nat.zero_le _, rfl, Ext.refl _, World.ownsRow_nil _ _ _ _⟩
  case round =>
    obtain ⟨k, hk, rfl, hxr, hown⟩ := hrel
    have HO : Hid (wr.ownsRow W4.heap.size 42 2 u15 k ((List.range k).map (pcC A (wdB d p (secs n)) C fun _ => false)).flatten) := hown
    clear hown
    have hsz := hxr.size
    by_cases hkn : k < N
    · have i1 : (k : Int) < (N : Int) := by omega
      obtain ⟨⟨bb, oo, rfl, hck⟩, _⟩ := (HC4.out.ext hxr) k hkn
      go_wp2_with (first | (at_builtin; refine append_els _ rfl (.tmp 50) (.tmp 56) 35 rfl 2 (by omega) W4.heap.size 42 (.agg #[.bool false, .slice none 0 0]) 32 Try.underlying35 infoPc rfl u15 k ((List.range k).map (pcC A (wdB d p (secs n)) C fun _ => false)) rfl (own_ext HO.out ((Ext.refl wr).alloc _ _)) (some ⟨wr.heap.size, 0, none⟩) 1 1 [[.bool false, .slice (A k) (wdB d p (secs n) k) (C k)]] rfl rfl (els_new _ _ rfl _ _ _) (Szd.one rfl) ?_ (by omega) (by omega) (by omega) ?_ ?_) | go_in)
      · intro cs hcs v hv
        rw [List.mem_singleton.1 hcs] at hv
        simp only [List.mem_cons, List.not_mem_nil, or_false] at hv
        rcases hv with rfl | rfl <;> rfl
      · exact (hxr.alloc _ _).size
      intro v5 w5 hown5 hgrow5
      have x5 : Ext wr (wr.alloc (.cells #[.bool false, .slice (A k) (wdB d p (secs n) k) (C k)] 42)) := (Ext.refl wr).alloc _ _
      have HN5 : Hid (Ext W4 w5 ∧ w5.ownsRow W4.heap.size 42 2 v5 (k + 1) ((List.range (k + 1)).map (pcC A (wdB d p (secs n)) C fun _ => false)).flatten) := by
        refine ⟨(hxr.alloc _ _).grow hgrow5 fun b hb => (own_geD HO.out hb), ?_⟩
        rw [List.range_succ, List.map_append, List.flatten_append]
        have e : pcC A (wdB d p (secs n)) C (fun _ => false) k = [.bool false, .slice (A k) (wdB d p (secs n) k) (C k)] := by unfold pcC; rw [if_neg (by simp)]
        simpa [e] using hown5
      clear hown5 hgrow5 x5 HO hck
      go_wp2_with fail
      go_roundw
      case rel => exact ⟨k + 1, by omega, by go_num, HN5.out.1, HN5.out.2⟩
      case measure => simp [intOf]; omega
    · obtain rfl : k = N := by omega
      have hb4 := extBlk hxr HB4.out
      have hb0 := extBlk ((HX01.out.trans HX4.out).trans hxr) HB0.out
      have e0 : wr.cell? ⟨g13, 0, none⟩ = some (.int .i64 V0) := by rw [cell_of_row _ _ 0 _ _ _ hb4]; rfl
      have e1 : wr.cell? ⟨g13, 1, none⟩ = some (.int .i64 V1) := by rw [cell_of_row _ _ 1 _ _ _ hb4]; rfl
      have e2 : wr.cell? ⟨g13, 2, none⟩ = some (.int .i64 V2) := by rw [cell_of_row _ _ 2 _ _ _ hb4]; rfl
      have e3 : wr.cell? ⟨g13, 3, none⟩ = some (.int .i64 V3) := by rw [cell_of_row _ _ 3 _ _ _ hb4]; rfl
      have r0 : wr.cell? ⟨w.heap.size, 0, none⟩ = some (.int .i64 0) := by rw [cell_of_row _ _ 0 _ _ _ hb0]; rfl
      have r1 : wr.cell? ⟨w.heap.size, 1, none⟩ = some (.int .i64 0) := by rw [cell_of_row _ _ 1 _ _ _ hb0]; rfl
      have r2 : wr.cell? ⟨w.heap.size, 2, none⟩ = some (.int .i64 0) := by rw [cell_of_row _ _ 2 _ _ _ hb0]; rfl
      have r3 : wr.cell? ⟨w.heap.size, 3, none⟩ = some (.int .i64 0) := by rw [cell_of_row _ _ 3 _ _ _ hb0]; rfl
      have z0 := frozen_of_row _ _ 0 _ _ hb0
      have z1 := frozen_of_row _ _ 1 _ _ hb0
      have z2 := frozen_of_row _ _ 2 _ _ hb0
      have z3 := frozen_of_row _ _ 3 _ _ hb0
      have HBR : Hid (wr.heap[w.heap.size]? = some (.cells #[.int .i64 0, .int .i64 0, .int .i64 0, .int .i64 0] 37 (0, 0))) := hb0
      clear hb4 hb0
      go_upto_region 10 with fail
      go_region_with fail
      simp only [List.getElem_toArray, List.getElem_cons_succ, List.getElem_cons_zero, Act.put, List.setIfInBounds_toArray, List.set_cons_succ, List.set_cons_zero]
      go_wp2_with fail
      have h1 := heap_setCell_same wr w.heap.size 0 _ _ (.int .i64 V0) HBR.out
      have h2 := heap_setCell_same _ w.heap.size 1 _ _ (.int .i64 V1) h1
      have h3 := heap_setCell_same _ w.heap.size 2 _ _ (.int .i64 V2) h2
      have h4 := heap_setCell_same _ w.heap.size 3 _ _ (.int .i64 V3) h3
      have hq4 : wr.heap.size ≥ W4.heap.size := hsz
      have hg4 : w.heap.size < W4.heap.size := by
        have := (HX01.out.trans HX4.out).size
        omega
      have hXm : Ext ((((W4.setCell ⟨w.heap.size, 0, none⟩ (.int .i64 V0)).setCell ⟨w.heap.size, 1, none⟩ (.int .i64 V1)).setCell ⟨w.heap.size, 2, none⟩ (.int .i64 V2)).setCell ⟨w.heap.size, 3, none⟩ (.int .i64 V3)) ((((wr.setCell ⟨w.heap.size, 0, none⟩ (.int .i64 V0)).setCell ⟨w.heap.size, 1, none⟩ (.int .i64 V1)).setCell ⟨w.heap.size, 2, none⟩ (.int .i64 V2)).setCell ⟨w.heap.size, 3, none⟩ (.int .i64 V3)) :=
        (((hxr.both _ hg4 _).both _ (by rw [World.size_setCell]; exact hg4) _).both _ (by rw [World.size_setCell, World.size_setCell]; exact hg4) _).both _ (by rw [World.size_setCell, World.size_setCell, World.size_setCell]; exact hg4) _
      have hw6 : Wro (· = w.heap.size) wr ((((wr.setCell ⟨w.heap.size, 0, none⟩ (.int .i64 V0)).setCell ⟨w.heap.size, 1, none⟩ (.int .i64 V1)).setCell ⟨w.heap.size, 2, none⟩ (.int .i64 V2)).setCell ⟨w.heap.size, 3, none⟩ (.int .i64 V3)) :=
        ((((Wro.refl (· = w.heap.size) wr).setCell (p := ⟨w.heap.size, 0, none⟩) rfl _).setCell (p := ⟨w.heap.size, 1, none⟩) rfl _).setCell (p := ⟨w.heap.size, 2, none⟩) rfl _).setCell (p := ⟨w.heap.size, 3, none⟩) rfl _
      have hO6 := own_wro2 HO.out hw6 fun b hb q => by
        have := (own_ge HO.out q).1
        omega
      have hHW : Ext w ((((W4.setCell ⟨w.heap.size, 0, none⟩ (.int .i64 V0)).setCell ⟨w.heap.size, 1, none⟩ (.int .i64 V1)).setCell ⟨w.heap.size, 2, none⟩ (.int .i64 V2)).setCell ⟨w.heap.size, 3, none⟩ (.int .i64 V3)) :=
        ((((HX1.out.trans HX4.out).setCell (p := ⟨w.heap.size, 0, none⟩) (Nat.le_refl _) _).setCell (p := ⟨w.heap.size, 1, none⟩) (Nat.le_refl _) _).setCell (p := ⟨w.heap.size, 2, none⟩) (Nat.le_refl _) _).setCell (p := ⟨w.heap.size, 3, none⟩) (Nat.le_refl _) _
      refine bodyPost_ret (results_tct rfl _ _ w.heap.size 37 #[.int .i64 V0, .int .i64 V1, .int .i64 V2, .int .i64 V3] (0, 0) _ rfl h4 Try.underlying37 rfl sumInfo) rfl ?_
      refine ⟨u15, A, C, by rw [HSV.out]; rfl, _, hHW, hXm.trans (Ext.refl _).drew, fun r hr => ?_, ?_⟩
      · rw [HN.out] at hr
        intro i hi
        obtain ⟨bb, oo, e, hv⟩ := (HC4.out r hr).2 i hi
        refine ⟨bb, oo, e, ?_⟩
        have hne : bb ≠ w.heap.size := fun q => by
          subst q
          rw [cell_of_row _ _ _ _ _ _ (extBlk (HX01.out.trans HX4.out) HB0.out)] at hv
          match oo + i, hv with
          | 0, hv => simp at hv
          | 1, hv => simp at hv
          | 2, hv => simp at hv
          | 3, hv => simp at hv
          | x + 4, hv => simp at hv
        rw [cell_other _ ⟨w.heap.size, 3, none⟩ ⟨bb, oo + i, none⟩ _ hne, cell_other _ ⟨w.heap.size, 2, none⟩ ⟨bb, oo + i, none⟩ _ hne, cell_other _ ⟨w.heap.size, 1, none⟩ ⟨bb, oo + i, none⟩ _ hne, cell_other _ ⟨w.heap.size, 0, none⟩ ⟨bb, oo + i, none⟩ _ hne]
        exact hv
      · rw [HN.out, World.size_setCell, World.size_setCell, World.size_setCell, World.size_setCell]
        exact own_ext hO6 (Ext.refl _).drew
end Go.Proofs.Ythgbfakmkdifbaa
/-
  Pieces in new memory, made lost.
-/
namespace Go.Proofs.Ythgbfakmkdifbaa
open Go.RowKit Go.Deep E
theorem pc_szd (A : Nat → Option Addr) (L C : Nat → Nat) (S : Nat → Bool) (l : List Nat) : Szd 2 (l.map (pcC A L C S)) := Szd.map (fun r => pcC_len A L C S r) l
theorem pc_set (A : Nat → Option Addr) (L C : Nat → Nat) (S : Nat → Bool) (N r : Nat) : ((List.range N).map (pcC A L C S)).set r [.bool true, .slice none 0 0] = (List.range N).map (pcC A L C fun x => x == r || S x) := by
  apply List.ext_getElem?
  intro i
  rw [List.getElem?_set]
  by_cases hi : i < N
  · rw [List.getElem?_map, List.getElem?_map, List.getElem?_range hi]
    by_cases e : r = i
    · subst e
      rw [if_pos rfl]
      simp [hi, pcC]
    · rw [if_neg e]
      simp [pcC, show ¬ i = r from fun q => e q.symm]
  · rw [List.getElem?_eq_none (l := List.map _ (List.range N)) (i := i) (by simpa using hi), List.getElem?_eq_none (l := List.map _ (List.range N)) (i := i) (by simpa using hi)]
    split
    · simp; omega
    · rfl
theorem pc_cells {w : World} {base g cap N : Nat} {A : Nat → Option Addr} {L C : Nat → Nat} {S : Nat → Bool} (h : w.ownsRow base 42 2 (.slice (some ⟨g, 0, none⟩) N cap) N ((List.range N).map (pcC A L C S)).flatten) {r : Nat} (hr : r < N) :
    ∃ x y, pcC A L C S r = [x, y] ∧ w.cell? ⟨g, r * 2, none⟩ = some x ∧ w.cell? ⟨g, r * 2 + 1, none⟩ = some y ∧ w.frozen? ⟨g, r * 2, none⟩ = false ∧ w.frozen? ⟨g, r * 2 + 1, none⟩ = false := by
  obtain ⟨cur, hcur⟩ := own_block h (g := g) rfl
  have he := (own_els h (pc_szd _ _ _ _ _) (by decide)).2
  have hl := pcC_len A L C S r
  obtain ⟨x, y, hxy⟩ : ∃ x y, pcC A L C S r = [x, y] := by
    match hq : pcC A L C S r, hl with
    | [x, y], _ => exact ⟨x, y, rfl⟩
  have hE := own_els_at h (pc_szd _ _ _ _ _) (by decide)
  obtain ⟨b, o, e, hc⟩ := hE r [x, y] (by rw [List.getElem?_map, List.getElem?_range hr, Option.map_some, hxy])
  cases e
  have h0 := hc 0 x rfl
  have h1 := hc 1 y rfl
  rw [Nat.zero_add] at h0 h1
  exact ⟨x, y, hxy, h0, h1, frozen_of_row _ _ _ _ _ hcur, frozen_of_row _ _ _ _ _ hcur⟩
theorem pc_lose {w : World} {base g cap N : Nat} {A : Nat → Option Addr} {L C : Nat → Nat} {S : Nat → Bool} (h : w.ownsRow base 42 2 (.slice (some ⟨g, 0, none⟩) N cap) N ((List.range N).map (pcC A L C S)).flatten) {r : Nat} (hr : r < N) :
    ((w.setCell ⟨g, r * 2, none⟩ (.bool true)).setCell ⟨g, r * 2 + 1, none⟩ (.slice none 0 0)).ownsRow base 42 2 (.slice (some ⟨g, 0, none⟩) N cap) N ((List.range N).map (pcC A L C fun x => x == r || S x)).flatten := by
  obtain ⟨x, y, hxy, _⟩ := pc_cells h hr
  have hk : ((List.range N).map (pcC A L C S))[r]? = some [x, y] := by rw [List.getElem?_map, List.getElem?_range hr, Option.map_some, hxy]
  have h1 := own_set1 h (pc_szd _ _ _ _ _) hk (j := 0) (by decide) (.bool true)
  have hs1 : Szd 2 (((List.range N).map (pcC A L C S)).set r [.bool true, y]) := fun cs hc => by
    rcases List.mem_or_eq_of_mem_set hc with h | h
    · exact pc_szd _ _ _ _ _ cs h
    · rw [h]; rfl
  have hk1 : (((List.range N).map (pcC A L C S)).set r [.bool true, y])[r]? = some [.bool true, y] := by rw [List.getElem?_set_self (by simpa using hr)]
  have h2 := own_set1 (L := ((List.range N).map (pcC A L C S)).set r [.bool true, y]) h1 hs1 hk1 (j := 1) (by decide) (.slice none 0 0)
  rw [List.set_set] at h2
  have e : ([Value.bool true, y].set 1 (.slice none 0 0)) = [.bool true, .slice none 0 0] := rfl
  rw [e, pc_set] at h2
  exact h2
theorem pc_pcs {w : World} {base g cap N : Nat} {A : Nat → Option Addr} {L C : Nat → Nat} {S : Nat → Bool} {F : Nat → Nat → E} (h : w.ownsRow base 42 2 (.slice (some ⟨g, 0, none⟩) N cap) N ((List.range N).map (pcC A L C S)).flatten) (hb : ∀ r, r < N → Byts w (A r) (L r) (F r)) :
    Pcs w (some ⟨g, 0, none⟩) N S (fun r => if S r then none else A r) (fun r => if S r then 0 else L r) (fun r => if S r then 0 else C r) F := fun r hr => by
  obtain ⟨x, y, hxy, h1, h2, _⟩ := pc_cells h hr
  cases e : S r with
  | true =>
    simp only [pcC, e, if_true, List.cons.injEq, and_true] at hxy
    obtain ⟨rfl, rfl⟩ := hxy
    exact ⟨⟨g, 0, rfl, by rw [Nat.zero_add]; exact h1, by rw [Nat.zero_add]; simpa [e] using h2⟩, fun i hi => by simp [e] at hi⟩
  | false =>
    simp only [pcC, e, Bool.false_eq_true, if_false, List.cons.injEq, and_true] at hxy
    obtain ⟨rfl, rfl⟩ := hxy
    refine ⟨⟨g, 0, rfl, by rw [Nat.zero_add]; exact h1, by rw [Nat.zero_add]; simpa [e] using h2⟩, ?_⟩
    simpa [e] using hb r hr
theorem wro_ext {a w w' : World} {g : Nat} (h : Ext a w) (k : Wro (· = g) w w') (hg : a.heap.size ≤ g) : Ext a w' :=
  ⟨⟨k.os.trans h.below.os, k.tape.trans h.below.tape, k.output.trans h.below.output, Nat.le_trans h.below.size k.size, fun i hi => (k.block i (Nat.lt_of_lt_of_le hi h.below.size) (fun q => by omega)).trans (h.below.block i hi)⟩⟩
theorem own_some {w : World} {base N : Nat} {e : TypeId} {sz : Nat} {v : Value} {xs : List Value} (h : w.ownsRow base e sz v N xs) (hN : 0 < N) : ∃ g cap, v = .slice (some ⟨g, 0, none⟩) N cap ∧ base ≤ g ∧ g < w.heap.size := by
  have h0 := h
  obtain ⟨_, h2⟩ := h
  rcases h2 with ⟨_, h4⟩ | ⟨g, cap, cur, h3, _⟩
  · omega
  · have := own_ge h0 (g := g) (by rw [h3]; rfl)
    exact ⟨g, cap, h3, this.1, this.2⟩
/-- the first k of a list of places -/
def frst (l : List Nat) (k r : Nat) : Bool := decide (r ∈ l.take k)
theorem frst_0 (l : List Nat) : frst l 0 = fun _ => false := by funext r; simp [frst]
theorem frst_s (l : List Nat) (k : Nat) (hk : k < l.length) : frst l (k + 1) = fun x => x == l.getD k 0 || frst l k x := by
  funext x
  have e : l.getD k 0 = l[k] := by rw [List.getD_eq_getElem?_getD, List.getElem?_eq_getElem hk]; rfl
  have ht : l.take (k + 1) = l.take k ++ [l[k]] := by rw [List.take_add_one, List.getElem?_eq_getElem hk]; rfl
  unfold frst
  rw [ht, e, Bool.eq_iff_iff, decide_eq_true_eq, List.mem_append, List.mem_singleton, Bool.or_eq_true, beq_iff_eq, decide_eq_true_eq, or_comm]
theorem frst_PL (n : Nat) (has : Nat → Bool) {r : Nat} (hr : r < n) : frst (PL n has) (PL n has).length r = has r := by
  unfold frst
  rw [List.take_length]
  cases e : has r with
  | true => exact decide_eq_true (PL_mem.2 ⟨hr, e⟩)
  | false => exact decide_eq_false fun h => by rw [(PL_mem.1 h).2] at e; cases e
end Go.Proofs.Ythgbfakmkdifbaa
