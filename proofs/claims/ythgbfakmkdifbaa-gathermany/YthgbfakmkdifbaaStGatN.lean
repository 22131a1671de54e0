/-
  stripe.Gather where too many are lost.
-/
import Derived.RangeFuncNested
import Derived.RangeFuncBound
import Derived.RangeFuncCalls
import Derived.RangeFuncLeaves
import Derived.Shelf.Abstract
import Derived.Shelf.RegionOpen
import Derived.WalkKit
import Derived.OwnWalkIn
import Derived.TacticsInMore
import Derived.LoopNIn
import Derived.LoopIn
import Derived.BigQuiet
import Derived.Deep.CutRange
import Derived.Deep.QuietTactic
import Derived.Deep.RegionLaw
import Derived.Test.YthgbfakmkdifbaaChecked
import Derived.Test.YthgbfakmkdifbaaStIter
import Derived.Test.YthgbfakmkdifbaaStWith
import Derived.Test.YthgbfakmkdifbaaStPk
import Derived.Test.YthgbfakmkdifbaaFlets
import Derived.Test.YthgbfakmkdifbaaRegFix3
import Derived.Test.YthgbfakmkdifbaaRegFix4
import Derived.Test.YthgbfakmkdifbaaRegFixIn
import Derived.Test.YthgbfakmkdifbaaStGat0
import Derived.Sort.CutIn
namespace Go.Proofs.Ythgbfakmkdifbaa
open Go.RowKit Go.Shelf Go.Deep E
attribute [local go_sem] Oper.semAt_some
set_option maxRecDepth 100000 in
set_option maxHeartbeats 8000000 in
theorem Gather_many (d p a n : Nat) (ap : Option Addr) (np cp : Nat) (T : Nat → Bool) (A : Nat → Option Addr) (L C : Nat → Nat) (F : Nat → Nat → E) (s : Nat → Int) (w : World) (ho : StOk d p (secs n)) (ha : a ≤ 65536) (hs : szOk n = true) (hnp : np = colN d p (secs n))
    (hf : fitN np T L (wdB d p (secs n)) = true) (hl : p < (plcs np T true).length) (hL : ∀ r, r < np → L r ≤ 9223372036854775807) (h : Pcs w ap np T A L C F) :
    Calls Try.prog 17 #[.int .i64 d, .int .i64 p, .int .i64 a, .int .i64 n, .slice ap np cp, .agg #[.int .i64 (s 0), .int .i64 (s 1), .int .i64 (s 2), .int .i64 (s 3)]] w fun e w' => e = .returned (.tuple #[.slice none 0 0, .slice none 0 0, .int .i64 12]) ∧ Ext w w' := by
  have HP : Hid (Pcs w ap np T A L C F) := h
  go_enter Try.func17, Try.ntmps17
  go_upto_region 1 with fail
  obtain ⟨W0, hW0⟩ : ∃ W0, ((((((w.alloc (.cells #[.int .i64 p] 3)).alloc (.cells #[.int .i64 n] 3)).alloc (.cells #[.int .i64 (s 0), .int .i64 (s 1), .int .i64 (s 2), .int .i64 (s 3)] 37)).alloc (.cells #[.slice none 0 0] 22)).alloc (.cells #[.slice none 0 0] 30)).alloc (.cells #[.int .i64 0] 24)) = W0 := ⟨_, rfl⟩
  have hs0 : W0.heap.size = w.heap.size + 6 := by rw [← hW0]; simp
  have HX0 : Hid (Ext w W0) := by show Ext w W0; rw [← hW0]; exact (((((((Ext.refl w).alloc _ _).alloc _ _).alloc _ _).alloc _ _).alloc _ _).alloc _ _)
  have HB7 : Hid (W0.heap[w.heap.size]? = some (.cells #[.int .i64 p] 3 (0, 0))) := by
    show _ = _
    rw [← hW0]
    exact extBlk ((((((Ext.refl _).alloc _ _).alloc _ _).alloc _ _).alloc _ _).alloc _ _) (heap_alloc_new w _)
  have HB9 : Hid (W0.heap[w.heap.size + 1]? = some (.cells #[.int .i64 n] 3 (0, 0))) := by
    show _ = _
    rw [← hW0]
    have h := heap_alloc_new (w.alloc (.cells #[.int .i64 p] 3)) (.cells #[.int .i64 n] 3)
    rw [World.size_alloc] at h
    exact extBlk (((((Ext.refl _).alloc _ _).alloc _ _).alloc _ _).alloc _ _) h
  have HB11 : Hid (W0.heap[w.heap.size + 1 + 1]? = some (.cells #[.int .i64 (s 0), .int .i64 (s 1), .int .i64 (s 2), .int .i64 (s 3)] 37 (0, 0))) := by
    show _ = _
    rw [← hW0]
    have h := heap_alloc_new ((w.alloc (.cells #[.int .i64 p] 3)).alloc (.cells #[.int .i64 n] 3)) (.cells #[.int .i64 (s 0), .int .i64 (s 1), .int .i64 (s 2), .int .i64 (s 3)] 37)
    rw [World.size_alloc, World.size_alloc] at h
    exact extBlk ((((Ext.refl _).alloc _ _).alloc _ _).alloc _ _) h
  have HB12 : Hid (W0.heap[w.heap.size + 1 + 1 + 1]? = some (.cells #[.slice none 0 0] 22 (0, 0))) := by
    show _ = _
    rw [← hW0]
    have h := heap_alloc_new (((w.alloc (.cells #[.int .i64 p] 3)).alloc (.cells #[.int .i64 n] 3)).alloc (.cells #[.int .i64 (s 0), .int .i64 (s 1), .int .i64 (s 2), .int .i64 (s 3)] 37)) (.cells #[.slice none 0 0] 22)
    rw [World.size_alloc, World.size_alloc, World.size_alloc] at h
    exact extBlk (((Ext.refl _).alloc _ _).alloc _ _) h
  have HB13 : Hid (W0.heap[w.heap.size + 1 + 1 + 1 + 1]? = some (.cells #[.slice none 0 0] 30 (0, 0))) := by
    show _ = _
    rw [← hW0]
    have h := heap_alloc_new ((((w.alloc (.cells #[.int .i64 p] 3)).alloc (.cells #[.int .i64 n] 3)).alloc (.cells #[.int .i64 (s 0), .int .i64 (s 1), .int .i64 (s 2), .int .i64 (s 3)] 37)).alloc (.cells #[.slice none 0 0] 22)) (.cells #[.slice none 0 0] 30)
    rw [World.size_alloc, World.size_alloc, World.size_alloc, World.size_alloc] at h
    exact extBlk ((Ext.refl _).alloc _ _) h
  have HB14 : Hid (W0.heap[w.heap.size + 1 + 1 + 1 + 1 + 1]? = some (.cells #[.int .i64 0] 24 (0, 0))) := by
    show _ = _
    rw [← hW0]
    have h := heap_alloc_new (((((w.alloc (.cells #[.int .i64 p] 3)).alloc (.cells #[.int .i64 n] 3)).alloc (.cells #[.int .i64 (s 0), .int .i64 (s 1), .int .i64 (s 2), .int .i64 (s 3)] 37)).alloc (.cells #[.slice none 0 0] 22)).alloc (.cells #[.slice none 0 0] 30)) (.cells #[.int .i64 0] 24)
    rw [World.size_alloc, World.size_alloc, World.size_alloc, World.size_alloc, World.size_alloc] at h
    exact h
  rw [hW0]
  clear hW0
  have HC7 : Hid (∀ u, Ext W0 u → u.cell? ⟨w.heap.size, 0, none⟩ = some (.int .i64 p)) := fun u x => by rw [cell_of_row _ _ 0 _ _ _ (extBlk x HB7.out)]; rfl
  have HC9 : Hid (∀ u, Ext W0 u → u.cell? ⟨w.heap.size + 1, 0, none⟩ = some (.int .i64 n)) := fun u x => by rw [cell_of_row _ _ 0 _ _ _ (extBlk x HB9.out)]; rfl
  have HO : Hid (StOk d p (secs n)) := ho
  have HSZ : Hid (szOk n = true) := hs
  have HNP : Hid (np = colN d p (secs n)) := hnp
  have HF : Hid (fitN np T L (wdB d p (secs n)) = true) := hf
  have HLB : Hid (∀ r, r < np → L r ≤ 9223372036854775807) := hL
  have hst := ok_st ho ha hs
  have HST : Hid (stOkB d p a n = true) := hst
  have hsn := (szOk_iff n).1 hs
  have hN := ho.N
  rw [← hnp] at hN
  have hpb := ho.p1
  have hpb3 := ho.p3
  have HCO := columnsOf_any d p a n n W0 (fun _ => rfl) (fun h => by rw [hs] at h; cases h)
  rw [stE_ok hst] at HCO
  clear h ho hs hnp hf hL hst
  have c7 := HC7.out W0 (Ext.refl _)
  have c9 := HC9.out W0 (Ext.refl _)
  go_wp2_with fail
  refine HCO.mono ?_
  rintro e W1 ⟨⟨ac, k, cm, rfl, hcn⟩, hx1⟩
  obtain ⟨hkn, hkc, hCn⟩ := hcn HST.out
  rw [Int.toNat_natCast, Int.toNat_natCast] at hkn
  rw [Int.toNat_natCast, Int.toNat_natCast, Int.toNat_natCast] at hCn
  have hk : np = k := by rw [HNP.out, hkn]
  subst hk
  clear hkn hcn c7 c9 HCO
  go_upto_region 2 with fail
  obtain ⟨W2, hW2⟩ : ∃ W2, W1.alloc (.cells #[.slice ac np cm] 51) = W2 := ⟨_, rfl⟩
  have HX2 : Hid (Ext W0 W2) := by show Ext W0 W2; rw [← hW2]; exact hx1.alloc _ _
  have HC15 : Hid (∀ u, Ext W2 u → u.cell? ⟨W1.heap.size, 0, none⟩ = some (.slice ac np cm)) := fun u x => x.keeps (by rw [← hW2, new_cell]; rfl)
  have HCN : Hid (CnS W2 ac d p a (secs n) 0 np) := by show CnS W2 ac d p a (secs n) 0 np; rw [← hW2]; exact hCn.ext ((Ext.refl W1).alloc _ _)
  obtain ⟨g15, hg15⟩ : ∃ g, W1.heap.size = g := ⟨_, rfl⟩
  rw [hg15] at HC15 ⊢
  rw [hW2]
  clear hW2 hg15 hCn hx1
  have c15 := HC15.out W2 (Ext.refl _)
  go_wp2_with fail
  refine (fit_any ap np cp T A L C F ac np cm d p a (secs n) W2 (by omega) hN.2 HLB.out HO.out HNP.out (HP.out.ext (HX0.out.trans HX2.out)) HCN.out).mono ?_
  rintro e W3 ⟨rfl, hx3⟩
  have hft : (decide (np = np) && fitN np T L (wdB d p (secs n))) = true := by rw [HF.out]; simp
  rw [hft]
  clear c15 hft
  go_wp2_with fail
  refine (stPlaces_any ap np cp T A L C F true W3 (by omega) (HP.out.ext ((HX0.out.trans HX2.out).trans hx3))).mono ?_
  rintro e W4 ⟨⟨vl, rfl, hvl⟩, hx4⟩
  go_wp2_with fail
  refine (stPlaces_any ap np cp T A L C F false W4 (by omega) (HP.out.ext (((HX0.out.trans HX2.out).trans hx3).trans hx4))).mono ?_
  rintro e W5 ⟨⟨vk, rfl, hvk⟩, hx5⟩
  obtain ⟨al, cl, hvl2, hIl⟩ := own_places hvl
  obtain ⟨ak, ck, hvk2, hIk⟩ := own_places hvk
  subst hvl2
  subst hvk2
  obtain ⟨ml, hml⟩ : ∃ ml, (plcs np T true).length = ml := ⟨_, rfl⟩
  obtain ⟨mk, hmk⟩ : ∃ mk, (plcs np T false).length = mk := ⟨_, rfl⟩
  have hsp : ml + mk = np := by
    rw [← hml, ← hmk]
    exact plcs_len np T
  rw [hml] at hl hIl ⊢
  rw [hmk] at hIk ⊢
  have HML : Hid ((plcs np T true).length = ml) := hml
  have HMK : Hid ((plcs np T false).length = mk) := hmk
  have HX5 : Hid (Ext W2 W5) := (hx3.trans hx4).trans hx5
  have HIL : Hid (Ints W5 al ml fun i => (((plcs np T true).getD i 0 : Nat) : Int)) := hIl.ext hx5
  have HIK : Hid (Ints W5 ak mk fun i => (((plcs np T false).getD i 0 : Nat) : Int)) := hIk
  clear hvl hvk hIl hIk hml hmk hx3 hx4 hx5
  go_upto_region 7 with fail
  have hmlp : ((p : Int) < (ml : Int)) := by omega
  obtain ⟨W6, hW6⟩ : ∃ W6, (W5.alloc (.cells #[.slice al ml cl] 30)).alloc (.cells #[.slice ak mk ck] 30) = W6 := ⟨_, rfl⟩
  have hx6 : Ext W0 W6 := (HX2.out.trans HX5.out).trans (by rw [← hW6]; exact ((Ext.refl _).alloc _ _).alloc _ _)
  have HX6 : Hid (Ext w W6) := HX0.out.trans hx6
  have hc7 : W6.cell? ⟨w.heap.size, 0, none⟩ = some (.int .i64 p) := HC7.out W6 hx6
  have hc17 : W6.cell? ⟨W5.heap.size, 0, none⟩ = some (.slice al ml cl) := by
    rw [← hW6]
    exact alloc_keeps (by rw [new_cell]; rfl) _
  have h12 := extBlk hx6 HB12.out
  have h13 := extBlk hx6 HB13.out
  have h14 := extBlk hx6 HB14.out
  have HS3 : Hid _ := three_set h12 h13 h14 (.slice none 0 0) (.slice none 0 0) (.int .i64 12)
  have hc12 := row1_cell h12
  have hf12 := frozen_of_row _ _ 0 _ _ h12
  have hb13' : (W6.setCell ⟨w.heap.size + 1 + 1 + 1, 0, none⟩ (.slice none 0 0)).heap[w.heap.size + 1 + 1 + 1 + 1]? = some (.cells #[.slice none 0 0] 30 (0, 0)) := (row1_oth (by omega) _).trans h13
  have hb14' : ((W6.setCell ⟨w.heap.size + 1 + 1 + 1, 0, none⟩ (.slice none 0 0)).setCell ⟨w.heap.size + 1 + 1 + 1 + 1, 0, none⟩ (.slice none 0 0)).heap[w.heap.size + 1 + 1 + 1 + 1 + 1]? = some (.cells #[.int .i64 0] 24 (0, 0)) := (row1_oth (by omega) _).trans ((row1_oth (by omega) _).trans h14)
  have hc13 := row1_cell hb13'
  have hf13 := frozen_of_row _ _ 0 _ _ hb13'
  have hc14 := row1_cell hb14'
  have hf14 := frozen_of_row _ _ 0 _ _ hb14'
  clear h12 h13 h14 hb13' hb14' hx6
  rw [hW6]
  clear hW6
  go_wp2_with fail
  trace_state
  obtain ⟨s1, s2, s3⟩ := HS3.out
  refine bodyPost_ret (res_three s1 s2 s3 rfl _ rfl rfl rfl) rfl ?_
  exact ⟨rfl, ((HX6.out.setCell (p := ⟨w.heap.size + 1 + 1 + 1, 0, none⟩) (show w.heap.size ≤ w.heap.size + 1 + 1 + 1 by omega) _).setCell (p := ⟨w.heap.size + 1 + 1 + 1 + 1, 0, none⟩) (show w.heap.size ≤ w.heap.size + 1 + 1 + 1 + 1 by omega) _).setCell (p := ⟨w.heap.size + 1 + 1 + 1 + 1 + 1, 0, none⟩) (show w.heap.size ≤ w.heap.size + 1 + 1 + 1 + 1 + 1 by omega) _⟩
end Go.Proofs.Ythgbfakmkdifbaa
