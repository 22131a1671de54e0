/-
  stripe.Gather where its columns fit.
-/
import Derived.RangeFuncNested
import Derived.RangeFuncBound
import Derived.RangeFuncCalls
import Derived.RangeFuncLeaves
import Derived.Shelf.Abstract
import Derived.Shelf.RegionOpen
import Derived.WalkKit
import Derived.OwnWalkIn
import Derived.TacticsInMore
import Derived.LoopNIn
import Derived.LoopIn
import Derived.BigQuiet
import Derived.Deep.CutRange
import Derived.Deep.QuietTactic
import Derived.Deep.RegionLaw
import Derived.Test.YthgbfakmkdifbaaChecked
import Derived.Test.YthgbfakmkdifbaaStIter
import Derived.Test.YthgbfakmkdifbaaStWith
import Derived.Test.YthgbfakmkdifbaaStPk
import Derived.Test.YthgbfakmkdifbaaFlets
import Derived.Test.YthgbfakmkdifbaaRegFix3
import Derived.Test.YthgbfakmkdifbaaRegFix4
import Derived.Test.YthgbfakmkdifbaaRegFixIn
import Derived.Test.YthgbfakmkdifbaaStGat0
import Derived.Sort.CutIn
namespace Go.Proofs.Ythgbfakmkdifbaa
open Go.RowKit Go.Shelf Go.Deep E
attribute [local go_sem] Oper.semAt_some
set_option maxRecDepth 100000 in
set_option maxHeartbeats 8000000 in
theorem Gather_ok (d p a n : Nat) (ap : Option Addr) (np cp : Nat) (T : Nat → Bool) (A : Nat → Option Addr) (L C : Nat → Nat) (F : Nat → Nat → E) (s : Nat → Int) (w : World) (ho : StOk d p (secs n)) (ha : a ≤ 65536) (hs : szOk n = true) (hnp : np = colN d p (secs n))
    (hf : fitN np T L (wdB d p (secs n)) = true) (hl : (plcs np T true).length ≤ p) (hL : ∀ r, r < np → L r ≤ 9223372036854775807) (h : Pcs w ap np T A L C F) :
    Calls Try.prog 17 #[.int .i64 d, .int .i64 p, .int .i64 a, .int .i64 n, .slice ap np cp, .agg #[.int .i64 (s 0), .int .i64 (s 1), .int .i64 (s 2), .int .i64 (s 3)]] w fun e w' => GatRes w' e d p (secs n) n T L F s ∧ Ext w w' := by
  refine (callsIn_wide (n := 10)).1 ?_
  have HP : Hid (Pcs w ap np T A L C F) := h
  refine callsIn_of_wp_marks Try.func17 rfl trivial ?_ rfl
  simp only [Try.ntmps17, List.size_toArray, List.length_cons, List.length_nil, Nat.reduceAdd, Nat.reduceSub, Array.replicate_succ, Array.replicate_zero, List.push_toArray, List.append_toArray, List.nil_append, List.cons_append]
  refine wpIn_wide.2 ?_
  go_upto_region 1 with fail
  obtain ⟨W0, hW0⟩ : ∃ W0, ((((((w.alloc (.cells #[.int .i64 p] 3)).alloc (.cells #[.int .i64 n] 3)).alloc (.cells #[.int .i64 (s 0), .int .i64 (s 1), .int .i64 (s 2), .int .i64 (s 3)] 37)).alloc (.cells #[.slice none 0 0] 22)).alloc (.cells #[.slice none 0 0] 30)).alloc (.cells #[.int .i64 0] 24)) = W0 := ⟨_, rfl⟩
  have hs0 : W0.heap.size = w.heap.size + 6 := by rw [← hW0]; simp
  have HX0 : Hid (Ext w W0) := by show Ext w W0; rw [← hW0]; exact (((((((Ext.refl w).alloc _ _).alloc _ _).alloc _ _).alloc _ _).alloc _ _).alloc _ _)
  have HB7 : Hid (W0.heap[w.heap.size]? = some (.cells #[.int .i64 p] 3 (0, 0))) := by
    show _ = _
    rw [← hW0]
    exact extBlk ((((((Ext.refl _).alloc _ _).alloc _ _).alloc _ _).alloc _ _).alloc _ _) (heap_alloc_new w _)
  have HB9 : Hid (W0.heap[w.heap.size + 1]? = some (.cells #[.int .i64 n] 3 (0, 0))) := by
    show _ = _
    rw [← hW0]
    have h := heap_alloc_new (w.alloc (.cells #[.int .i64 p] 3)) (.cells #[.int .i64 n] 3)
    rw [World.size_alloc] at h
    exact extBlk (((((Ext.refl _).alloc _ _).alloc _ _).alloc _ _).alloc _ _) h
  have HB11 : Hid (W0.heap[w.heap.size + 1 + 1]? = some (.cells #[.int .i64 (s 0), .int .i64 (s 1), .int .i64 (s 2), .int .i64 (s 3)] 37 (0, 0))) := by
    show _ = _
    rw [← hW0]
    have h := heap_alloc_new ((w.alloc (.cells #[.int .i64 p] 3)).alloc (.cells #[.int .i64 n] 3)) (.cells #[.int .i64 (s 0), .int .i64 (s 1), .int .i64 (s 2), .int .i64 (s 3)] 37)
    rw [World.size_alloc, World.size_alloc] at h
    exact extBlk ((((Ext.refl _).alloc _ _).alloc _ _).alloc _ _) h
  have HB12 : Hid (W0.heap[w.heap.size + 1 + 1 + 1]? = some (.cells #[.slice none 0 0] 22 (0, 0))) := by
    show _ = _
    rw [← hW0]
    have h := heap_alloc_new (((w.alloc (.cells #[.int .i64 p] 3)).alloc (.cells #[.int .i64 n] 3)).alloc (.cells #[.int .i64 (s 0), .int .i64 (s 1), .int .i64 (s 2), .int .i64 (s 3)] 37)) (.cells #[.slice none 0 0] 22)
    rw [World.size_alloc, World.size_alloc, World.size_alloc] at h
    exact extBlk (((Ext.refl _).alloc _ _).alloc _ _) h
  have HB13 : Hid (W0.heap[w.heap.size + 1 + 1 + 1 + 1]? = some (.cells #[.slice none 0 0] 30 (0, 0))) := by
    show _ = _
    rw [← hW0]
    have h := heap_alloc_new ((((w.alloc (.cells #[.int .i64 p] 3)).alloc (.cells #[.int .i64 n] 3)).alloc (.cells #[.int .i64 (s 0), .int .i64 (s 1), .int .i64 (s 2), .int .i64 (s 3)] 37)).alloc (.cells #[.slice none 0 0] 22)) (.cells #[.slice none 0 0] 30)
    rw [World.size_alloc, World.size_alloc, World.size_alloc, World.size_alloc] at h
    exact extBlk ((Ext.refl _).alloc _ _) h
  have HB14 : Hid (W0.heap[w.heap.size + 1 + 1 + 1 + 1 + 1]? = some (.cells #[.int .i64 0] 24 (0, 0))) := by
    show _ = _
    rw [← hW0]
    have h := heap_alloc_new (((((w.alloc (.cells #[.int .i64 p] 3)).alloc (.cells #[.int .i64 n] 3)).alloc (.cells #[.int .i64 (s 0), .int .i64 (s 1), .int .i64 (s 2), .int .i64 (s 3)] 37)).alloc (.cells #[.slice none 0 0] 22)).alloc (.cells #[.slice none 0 0] 30)) (.cells #[.int .i64 0] 24)
    rw [World.size_alloc, World.size_alloc, World.size_alloc, World.size_alloc, World.size_alloc] at h
    exact h
  rw [hW0]
  clear hW0
  have HC7 : Hid (∀ u, Ext W0 u → u.cell? ⟨w.heap.size, 0, none⟩ = some (.int .i64 p)) := fun u x => by rw [cell_of_row _ _ 0 _ _ _ (extBlk x HB7.out)]; rfl
  have HC9 : Hid (∀ u, Ext W0 u → u.cell? ⟨w.heap.size + 1, 0, none⟩ = some (.int .i64 n)) := fun u x => by rw [cell_of_row _ _ 0 _ _ _ (extBlk x HB9.out)]; rfl
  have HO : Hid (StOk d p (secs n)) := ho
  have HSZ : Hid (szOk n = true) := hs
  have HNP : Hid (np = colN d p (secs n)) := hnp
  have HF : Hid (fitN np T L (wdB d p (secs n)) = true) := hf
  have HLB : Hid (∀ r, r < np → L r ≤ 9223372036854775807) := hL
  have hst := ok_st ho ha hs
  have HST : Hid (stOkB d p a n = true) := hst
  have hsn := (szOk_iff n).1 hs
  have hN := ho.N
  rw [← hnp] at hN
  have hpb := ho.p1
  have hpb3 := ho.p3
  have HCO := columnsOf_any d p a n n W0 (fun _ => rfl) (fun h => by rw [hs] at h; cases h)
  rw [stE_ok hst] at HCO
  clear h ho hs hnp hf hL hst
  have c7 := HC7.out W0 (Ext.refl _)
  have c9 := HC9.out W0 (Ext.refl _)
  go_wp2_with fail
  refine HCO.mono ?_
  rintro e W1 ⟨⟨ac, k, cm, rfl, hcn⟩, hx1⟩
  obtain ⟨hkn, hkc, hCn⟩ := hcn HST.out
  rw [Int.toNat_natCast, Int.toNat_natCast] at hkn
  rw [Int.toNat_natCast, Int.toNat_natCast, Int.toNat_natCast] at hCn
  have hk : np = k := by rw [HNP.out, hkn]
  subst hk
  clear hkn hcn c7 c9 HCO
  go_upto_region 2 with fail
  obtain ⟨W2, hW2⟩ : ∃ W2, W1.alloc (.cells #[.slice ac np cm] 51) = W2 := ⟨_, rfl⟩
  have HX2 : Hid (Ext W0 W2) := by show Ext W0 W2; rw [← hW2]; exact hx1.alloc _ _
  have HC15 : Hid (∀ u, Ext W2 u → u.cell? ⟨W1.heap.size, 0, none⟩ = some (.slice ac np cm)) := fun u x => x.keeps (by rw [← hW2, new_cell]; rfl)
  have HCN : Hid (CnS W2 ac d p a (secs n) 0 np) := by show CnS W2 ac d p a (secs n) 0 np; rw [← hW2]; exact hCn.ext ((Ext.refl W1).alloc _ _)
  obtain ⟨g15, hg15⟩ : ∃ g, W1.heap.size = g := ⟨_, rfl⟩
  rw [hg15] at HC15 ⊢
  rw [hW2]
  clear hW2 hg15 hCn hx1
  have c15 := HC15.out W2 (Ext.refl _)
  go_wp2_with fail
  refine (fit_any ap np cp T A L C F ac np cm d p a (secs n) W2 (by omega) hN.2 HLB.out HO.out HNP.out (HP.out.ext (HX0.out.trans HX2.out)) HCN.out).mono ?_
  rintro e W3 ⟨rfl, hx3⟩
  have hft : (decide (np = np) && fitN np T L (wdB d p (secs n))) = true := by rw [HF.out]; simp
  rw [hft]
  clear c15 hft
  go_wp2_with fail
  refine (stPlaces_any ap np cp T A L C F true W3 (by omega) (HP.out.ext ((HX0.out.trans HX2.out).trans hx3))).mono ?_
  rintro e W4 ⟨⟨vl, rfl, hvl⟩, hx4⟩
  go_wp2_with fail
  refine (stPlaces_any ap np cp T A L C F false W4 (by omega) (HP.out.ext (((HX0.out.trans HX2.out).trans hx3).trans hx4))).mono ?_
  rintro e W5 ⟨⟨vk, rfl, hvk⟩, hx5⟩
  obtain ⟨al, cl, hvl2, hIl⟩ := own_places hvl
  obtain ⟨ak, ck, hvk2, hIk⟩ := own_places hvk
  subst hvl2
  subst hvk2
  obtain ⟨ml, hml⟩ : ∃ ml, (plcs np T true).length = ml := ⟨_, rfl⟩
  obtain ⟨mk, hmk⟩ : ∃ mk, (plcs np T false).length = mk := ⟨_, rfl⟩
  have hsp : ml + mk = np := by
    rw [← hml, ← hmk]
    exact plcs_len np T
  rw [hml] at hl hIl ⊢
  rw [hmk] at hIk ⊢
  have HML : Hid ((plcs np T true).length = ml) := hml
  have HMK : Hid ((plcs np T false).length = mk) := hmk
  have HX5 : Hid (Ext W2 W5) := (hx3.trans hx4).trans hx5
  have HIL : Hid (Ints W5 al ml fun i => (((plcs np T true).getD i 0 : Nat) : Int)) := hIl.ext hx5
  have HIK : Hid (Ints W5 ak mk fun i => (((plcs np T false).getD i 0 : Nat) : Int)) := hIk
  clear hvl hvk hIl hIk hml hmk hx3 hx4 hx5
  go_upto_region 7 with fail
  obtain ⟨W6, hW6⟩ : ∃ W6, (W5.alloc (.cells #[.slice al ml cl] 30)).alloc (.cells #[.slice ak mk ck] 30) = W6 := ⟨_, rfl⟩
  have hx56 : Ext W5 W6 := by rw [← hW6]; exact ((Ext.refl _).alloc _ _).alloc _ _
  have HX6 : Hid (Ext W2 W6) := HX5.out.trans hx56
  have HC17 : Hid (∀ u, Ext W6 u → u.cell? ⟨W5.heap.size, 0, none⟩ = some (.slice al ml cl)) := fun u x => x.keeps (by rw [← hW6]; exact alloc_keeps (by rw [new_cell]; rfl) _)
  have HC18 : Hid (∀ u, Ext W6 u → u.cell? ⟨W5.heap.size + 1, 0, none⟩ = some (.slice ak mk ck)) := fun u x => x.keeps (by
    rw [← hW6]
    have h := new_cell (W5.alloc (.cells #[.slice al ml cl] 30)) #[.slice ak mk ck] 30 0
    rw [World.size_alloc] at h
    rw [h]
    rfl)
  have HIL6 : Hid (Ints W6 al ml fun i => (((plcs np T true).getD i 0 : Nat) : Int)) := HIL.out.ext hx56
  have HIK6 : Hid (Ints W6 ak mk fun i => (((plcs np T false).getD i 0 : Nat) : Int)) := HIK.out.ext hx56
  obtain ⟨g17, hg17⟩ : ∃ g, W5.heap.size = g := ⟨_, rfl⟩
  rw [hg17] at HC17 HC18 ⊢
  rw [hW6]
  have HX06 : Hid (Ext W0 W6) := HX2.out.trans HX6.out
  clear hW6 hx56 HIL HIK HX5 hg17
  have c17 := HC17.out W6 (Ext.refl _)
  have c7 := HC7.out W6 HX06.out
  have hmlp : ¬ ((p : Int) < (ml : Int)) := by omega
  have c15 := HC15.out W6 HX6.out
  have hcnt : cntC d p (secs n) 0 ≤ 1048576 := by
    have := (HO.out.cnt (i := 0) (by rw [← HNP.out]; omega)).2.2.2
    omega
  have hM4 : wdB d p (secs n) 0 ≤ 4096 := (HO.out.wd (i := 0) (by rw [← HNP.out]; omega)).2.2
  go_upto_region 9 with fail
  clear c17
  have HPU : Hid (∀ u, Ext W6 u → Pcs u ap np T A L C F) := fun u x => HP.out.ext (HX0.out.trans (HX06.out.trans x))
  have HCU : Hid (∀ u, Ext W6 u → CnS u ac d p a (secs n) 0 np) := fun u x => HCN.out.ext (HX6.out.trans x)
  have hnp8 := hN.2
  have hpn := hN.1
  obtain ⟨M, hMM⟩ : ∃ M, wdB d p (secs n) 0 = M := ⟨_, rfl⟩
  have HMM : Hid (wdB d p (secs n) 0 = M) := hMM
  have HLG : Hid (∀ u, Ext W6 u → Calls Try.prog 25 #[.slice ac np cm] u fun e w' => e = .returned (.int .i64 M) ∧ Ext u w') := fun u x => by
    have := longest_any ac np cm d p a (secs n) u (by omega) hcnt (HCU.out u x)
    rw [hMM] at this
    exact this
  rw [hMM] at hM4
  clear hMM c15 c7
  have HF1 : Hid ((Try.f31.name == "runtime.NumGoroutine") = false ∧ Try.f31.body.isNone = false) := ⟨by kernel_rfl, by kernel_rfl⟩
  have HF2 : Hid ((Try.f25.name == "runtime.NumGoroutine") = false ∧ Try.f25.body.isNone = false) := ⟨by kernel_rfl, by kernel_rfl⟩
  have HF3 : Hid ((Try.f24.name == "runtime.NumGoroutine") = false ∧ Try.f24.body.isNone = false) := ⟨by kernel_rfl, by kernel_rfl⟩
  refine wp_region_fixed3 (P := Try.prog) 7 (by kernel_rfl) (by kernel_rfl) (fun i => if i = 6 then 19 else 48 + i) (r9V ap ac np cp cm p M) (R9J W6 np M (fun j => A (tauP np p j)) (fun j => L (tauP np p j)) (fun j => C (tauP np p j)) (fun j => F (tauP np p j)) (gatZ np p L F)) (by kernel_rfl) (by kernel_rfl) [] (by kernel_rfl) (fun p g hg => by simp at hg)
    (fun i j hi hj h => by have h : (if i = 6 then 19 else 48 + i) = (if j = 6 then 19 else 48 + j) := h; split at h <;> split at h <;> omega) (fun i hi => by show (if i = 6 then 19 else 48 + i) < 86; split <;> omega) (0, 0, 0) ⟨(Ext.refl _).drew, (fun h => by cases h), (fun h => by cases h), (fun h => by cases h)⟩ ?_ ?_
  · intro g Ls i a' w' hi7 hLi hde hcl hA hJ
    match i, hi7, hLi, hde with
    | 0, _, hLi, hde =>
      have e4 : a'.eval (.tmp 4) = .slice ap np cp := hA.eval 4 (fun j _ => by show (if j = 6 then 19 else 48 + j) ≠ 4; split <;> omega)
      exact ⟨_, rfl, fun K' hk => wp_runs (gx_move (.tmp 4) rfl e4) (hk g w' (fun _ _ _ => rfl) (hJ.next (Ext.refl _) (by omega) (by omega) (by omega)))⟩
    | 1, _, hLi, hde =>
      have e7 : a'.eval (.tmp 7) = .pointer (some ⟨w.heap.size, 0, none⟩) := hA.eval 7 (fun j _ => by show (if j = 6 then 19 else 48 + j) ≠ 7; split <;> omega)
      exact ⟨_, rfl, fun K' hk => wp_runs (gx_load _ (.tmp 7) rfl e7 (load_oneS Try.underlying3 rfl (HC7.out w' (HX06.out.trans hJ.ext)))) (hk g w' (fun _ _ _ => rfl) (hJ.next (Ext.refl _) (by omega) (by omega) (by omega)))⟩
    | 2, _, hLi, hde =>
      have e48 : a'.eval (.tmp 48) = .slice ap np cp := hA.at 0 (by omega) (hde 0 (by kernel_rfl))
      have e49 : a'.eval (.tmp 49) = .int .i64 p := hA.at 1 (by omega) (hde 1 (by kernel_rfl))
      refine ⟨_, rfl, fun K' hk => wp_callsG 31 Try.func31 HF1.out.1 HF1.out.2 [.tmp 48, .tmp 49] _ rfl [.slice ap np cp, .int .i64 p] (by simp only [List.map_cons, List.map_nil, e48, e49]) (.slice (some ⟨w'.heap.size, 0, none⟩) np np) (fun w'' => Ext w' w'' ∧ Cols w'' (some ⟨w'.heap.size, 0, none⟩) np (fun j => A (tauP np p j)) (fun j => L (tauP np p j)) (fun j => C (tauP np p j)) (fun j => F (tauP np p j))) ((dataFirst_any ap np cp T A L C F p w' hnp8 hpn (HPU.out w' hJ.ext)).mono fun e w'' h => ⟨h.1.1, h.2, h.1.2⟩) fun w'' hw'' => ?_⟩
      refine hk (w'.heap.size, g.2) w'' (fun j hj hl => ?_) ⟨hJ.ext.trans hw''.1, fun _ => hw''.2, fun hl => hw''.1.cols2 (hJ.fil (by unfold updB at hl; rw [if_neg (by omega)] at hl; exact hl)), fun hl => ⟨extBlk hw''.1 (hJ.bx (by unfold updB at hl; rw [if_neg (by omega)] at hl; exact hl)).1, (hJ.bx (by unfold updB at hl; rw [if_neg (by omega)] at hl; exact hl)).2⟩⟩
      have e : j ≠ 2 := fun h => by rw [h, hLi] at hl; cases hl
      exact r9V_2 e
    | 3, _, hLi, hde =>
      have e15 : a'.eval (.tmp 15) = .pointer (some ⟨g15, 0, none⟩) := hA.eval 15 (fun j _ => by show (if j = 6 then 19 else 48 + j) ≠ 15; split <;> omega)
      exact ⟨_, rfl, fun K' hk => wp_runs (gx_load _ (.tmp 15) rfl e15 (load_oneS Try.underlying51 rfl (HC15.out w' (HX6.out.trans hJ.ext)))) (hk g w' (fun _ _ _ => rfl) (hJ.next (Ext.refl _) (by omega) (by omega) (by omega)))⟩
    | 4, _, hLi, hde =>
      have e51 : a'.eval (.tmp 51) = .slice ac np cm := hA.at 3 (by omega) (hde 3 (by kernel_rfl))
      exact ⟨_, rfl, fun K' hk => wp_callsG 25 Try.func25 HF2.out.1 HF2.out.2 [.tmp 51] _ rfl [.slice ac np cm] (by simp only [List.map_cons, List.map_nil, e51]) (.int .i64 M) (fun w'' => Ext w' w'') (HLG.out w' hJ.ext) fun w'' hw'' => hk g w'' (fun _ _ _ => rfl) (hJ.next hw'' (by omega) (by omega) (by omega))⟩
    | 5, _, hLi, hde =>
      have e50 : a'.eval (.tmp 50) = .slice (some ⟨g.1, 0, none⟩) np np := hA.at 2 (by omega) (hde 2 (by kernel_rfl))
      have e52 : a'.eval (.tmp 52) = .int .i64 M := hA.at 4 (by omega) (hde 4 (by kernel_rfl))
      have hdat := hJ.dat (hde 2 (by kernel_rfl))
      refine ⟨_, rfl, fun K' hk => wp_callsG 24 Try.func24 HF3.out.1 HF3.out.2 [.tmp 50, .tmp 52] _ rfl [.slice (some ⟨g.1, 0, none⟩) np np, .int .i64 M] (by simp only [List.map_cons, List.map_nil, e50, e52]) (.slice (some ⟨w'.heap.size, 0, none⟩) np np) (fun w'' => Ext w' w'' ∧ ∃ w0 G, BldB w0 w'' w'.heap.size np M np (gatZ np p L F) G) ((filled_any (some ⟨g.1, 0, none⟩) np np _ _ _ _ M w' (by omega) (by omega) hdat).mono fun e w'' h => ⟨h.1, ?_⟩) fun w'' hw'' => ?_⟩
      · obtain ⟨_, G, hG⟩ := h
        exact ⟨hG.ext, _, _, hG⟩
      · refine hk (g.1, w'.heap.size, g.2.2) w'' (fun j hj hl => ?_) ⟨hJ.ext.trans hw''.1, fun hl => (hJ.dat (by unfold updB at hl; rw [if_neg (by omega)] at hl; exact hl)).ext hw''.1, fun _ => hw''.2, fun hl => ⟨extBlk hw''.1 (hJ.bx (by unfold updB at hl; rw [if_neg (by omega)] at hl; exact hl)).1, (hJ.bx (by unfold updB at hl; rw [if_neg (by omega)] at hl; exact hl)).2⟩⟩
        have e : j ≠ 5 := fun h => by rw [h, hLi] at hl; cases hl
        exact r9V_5 e
    | 6, _, hLi, hde =>
      refine ⟨_, rfl, fun K' hk => wp_allocs1 23 rfl (zeroV_of (show (Try.prog.info? 23).map (fun i => i.zero) = some (some (.slice none 0 0)) by kernel_rfl)) ?_⟩
      refine hk (g.1, g.2.1, w'.heap.size) _ (fun j hj hl => ?_) ⟨hJ.ext.alloc _ _, fun hl => (hJ.dat (by unfold updB at hl; rw [if_neg (by omega)] at hl; exact hl)).ext ((Ext.refl _).alloc _ _), fun hl => ((Ext.refl _).alloc _ _).cols2 (hJ.fil (by unfold updB at hl; rw [if_neg (by omega)] at hl; exact hl)), fun _ => ⟨heap_alloc_new _ _, hJ.ext.size⟩⟩
      have e : j ≠ 6 := fun h => by rw [h, hLi] at hl; cases hl
      exact r9V_6 e
    | x + 7, h, _, _ => exact absurd h (by omega)
  · intro g Ls w' hL' hJ
    obtain ⟨gd, ga, g19⟩ := g
    have HX7 : Hid (Ext W6 w') := hJ.ext
    have hfil := hJ.fil (hL' 5 (by omega))
    obtain ⟨hb19, hg19⟩ := hJ.bx (hL' 6 (by omega))
    dsimp only at hb19 hg19 hfil
    have hc19 : w'.cell? ⟨g19, 0, none⟩ = some (.slice none 0 0) := by rw [cell_of_row _ _ 0 _ _ _ hb19]; rfl
    have hf19 := frozen_of_row w' g19 0 _ _ hb19
    have HB19 : Hid (w'.heap[g19]? = some (.cells #[.slice none 0 0] 23 (0, 0))) := hb19
    clear hJ hL' hb19 HF1 HF2 HF3 HLG HPU HCU
    simp only [List.drop_succ_cons, List.drop_zero]
    have hput : ∀ a0 : Act, putAll (fun i => if i = 6 then 19 else 48 + i) (r9V ap ac np cp cm p M (gd, ga, g19)) a0 7 = (((((((a0.put (some 48) (.slice ap np cp)).put (some 49) (.int .i64 p)).put (some 50) (.slice (some ⟨gd, 0, none⟩) np np)).put (some 51) (.slice ac np cm)).put (some 52) (.int .i64 M)).put (some 53) (.slice (some ⟨ga, 0, none⟩) np np)).put (some 19) (.pointer (some ⟨g19, 0, none⟩))) := fun _ => rfl
    rw [hput]
    simp only [Act.put, List.setIfInBounds_toArray, List.set_cons_succ, List.set_cons_zero]
    clear hput
    have HW8 : Hid (Ext W6 (w'.setCell ⟨g19, 0, none⟩ (.slice (some ⟨ga, 0, none⟩) np np)) ∧ (w'.setCell ⟨g19, 0, none⟩ (.slice (some ⟨ga, 0, none⟩) np np)).cell? ⟨g19, 0, none⟩ = some (.slice (some ⟨ga, 0, none⟩) np np) ∧ ∃ A' C', Cols (w'.setCell ⟨g19, 0, none⟩ (.slice (some ⟨ga, 0, none⟩) np np)) (some ⟨ga, 0, none⟩) np A' (fun _ => M) C' (gatZ np p L F)) := by
      obtain ⟨w0, G, hB⟩ := hfil
      refine ⟨HX7.out.setCell (p := ⟨g19, 0, none⟩) hg19 _, World.cell?_setCell_same' _ _ _ (by rw [hc19]; rfl), _, _, hB.cols_set HB19.out (by decide) (by decide) _⟩
    clear hfil
    go_upto_region 10 with fail
    clear hc19 hf19
    generalize w'.setCell ⟨g19, 0, none⟩ (.slice (some ⟨ga, 0, none⟩) np np) = W8 at *
    obtain ⟨hx8, hc19, A', C', hCA⟩ := HW8.out
    have HX8 : Hid (Ext W6 W8) := hx8
    have HC19 : Hid (W8.cell? ⟨g19, 0, none⟩ = some (.slice (some ⟨ga, 0, none⟩) np np)) := hc19
    have HCA : Hid (Cols W8 (some ⟨ga, 0, none⟩) np A' (fun _ => M) C' (gatZ np p L F)) := hCA
    clear HW8 HB19 HX7 hCA hx8 hc19 hg19
    have c7 := HC7.out W8 (HX06.out.trans HX8.out)
    have c17 := HC17.out W8 HX8.out
    have c18 := HC18.out W8 HX8.out
    obtain ⟨q, hq⟩ : ∃ q, p - ml = q := ⟨_, rfl⟩
    have hqi : (p : Int) - (ml : Int) = (q : Int) := by omega
    have hmlb : ml ≤ 8 ∧ mk ≤ 8 ∧ q ≤ mk := by omega
    have HQ : Hid (p - ml = q) := hq
    go_wp2_with fail
    refine (stPicks_any mk q _).mono ?_
    rintro e W9 ⟨rfl, hW9⟩
    obtain ⟨g20, hg20⟩ : ∃ g, W8.heap.size = g := ⟨_, rfl⟩
    have hx9 : Ext W8 W9 := by rw [hW9]; exact ((Ext.refl _).alloc _ _).alloc _ _
    have hbn : W9.cell? ⟨g20, 0, none⟩ = some (.int .i64 mk) := by
      rw [hW9, ← hg20]
      exact alloc_keeps (by rw [new_cell]; rfl) _
    have hbm : W9.cell? ⟨g20 + 1, 0, none⟩ = some (.int .i64 q) := by
      rw [hW9, ← hg20]
      have h := new_cell (W8.alloc (.cells #[.int .i64 mk] 3)) #[.int .i64 q] 3 0
      rw [World.size_alloc] at h
      rw [h]
      rfl
    rw [hg20]
    have HX9 : Hid (Ext W8 W9) := hx9
    have HX69 : Hid (Ext W6 W9) := HX8.out.trans hx9
    have HX09 : Hid (Ext W0 W9) := HX06.out.trans HX69.out
    have HXw : Hid (Ext w W9) := HX0.out.trans HX09.out
    clear hW9 hx9 hg20 c7 c17 c18
    obtain ⟨All, hAll⟩ : ∃ All, allPk mk (q + 1) = All := ⟨_, rfl⟩
    have HA : Hid (All = allPk (plcs (colN d p (secs n)) T false).length (p - (plcs (colN d p (secs n)) T true).length + 1)) := by
      show _ = _
      rw [← HNP.out, HMK.out, HML.out, HQ.out, hAll]
    have HSEQ := picks_seq 9 (by omega) (g20 + 1) g20 mk q (by omega) (by omega) W9 hbm hbn
    rw [hAll] at HSEQ
    go_wp2_with fail
    refine (wpIn_wide (n := 10)).1 ?_
    refine wp_range_given (F := Fence.wide) (n := 10) rfl (by omega) (gf := 48) (lb := #[.pointer (some ⟨g20 + 1, 0, none⟩), .pointer (some ⟨g20, 0, none⟩)]) rfl trivial (enters_of Try.func48 (by kernel_rfl) rfl) rfl
      (fun x W => Kb W9.heap.size W9 W ∧ ∀ i k, i < x → All[i]? = some k → sumB4 (secs n) s (gatP d p (secs n) T L F k) = false)
      (GatX w d p (secs n) n T L F s (w.heap.size + 1 + 1 + 1)) (PkAt All) 0 All.length HSEQ (fun x A B h k => ⟨h.1.trans k, h.2⟩) (fun A B h k => h.kb k HXw.out.size) (fun x x' v A B h k => h.kc k) ⟨⟨Kc.refl _, Below.refl _ _⟩, fun i k hi => by omega⟩ (fun tm v => { tmps := (tm.setIfInBounds 61 v).setIfInBounds 20 v, defers := [] }) ?assign ?body ?done ?stop
    case assign =>
      intro l x x' v W K hi hp hK
      gi_wp2
      exact hK
    case body =>
      rintro l x x' v W ⟨hkb, hno⟩ ⟨rfl, k, ab, cb, hk, rfl, hIk⟩
      simp only [List.setIfInBounds_toArray, List.set_cons_succ, List.set_cons_zero]
      have hka := hkb.1
      have hc7 := hka.keeps (HC7.out W9 HX09.out)
      have hc15 := hka.keeps (HC15.out W9 (HX6.out.trans HX69.out))
      have hc17 := hka.keeps (HC17.out W9 HX69.out)
      have hc18 := hka.keeps (HC18.out W9 HX69.out)
      have hc19 := hka.keeps (HX9.out.keeps HC19.out)
      have hIL := hka.ints (HIL6.out.ext HX69.out)
      have hIK := hka.ints (HIK6.out.ext HX69.out)
      have hmem : k ∈ allPk (plcs np T false).length (q + 1) := by
        have := List.mem_of_getElem? hk
        rw [← hAll] at this
        rw [HMK.out]
        exact this
      have hpf := pick_facts hmem
      rw [HMK.out] at hpf
      have hkq : k.length ≤ q := by omega
      have hIk2 : Ints W ab k.length fun i => ((k.getD i 0 : Nat) : Int) := hIk.congr fun i _ => by unfold pkF; rw [List.getD_eq_getElem?_getD]
      have HAT := stAt_any ak mk ck (fun i => (((plcs np T false).getD i 0 : Nat) : Int)) ab k.length cb (fun i => k.getD i 0) W (by omega) hpf.2.1 hIK hIk2
      have HKB : Hid (Kb W9.heap.size W9 W) := hkb
      have HNO : Hid (∀ i k, i < x → All[i]? = some k → sumB4 (secs n) s (gatP d p (secs n) T L F k) = false) := hno
      have HAK : Hid (All[x]? = some k) := hk
      have HMEM : Hid (k ∈ allPk (plcs np T false).length (q + 1)) := hmem
      have HCW : Hid (∀ u, Ext W u → Cols u (some ⟨ga, 0, none⟩) np A' (fun _ => wdB d p (secs n) 0) C' (gatZ np p L F)) := fun u xu => by
        have h1 := (hka.cols (HCA.out.ext HX9.out)).ext xu
        rw [HMM.out]
        exact h1
      have HNW : Hid (∀ u, Ext W u → CnS u ac d p a (secs n) 0 np) := fun u xu => CnS.ext (hka.els (HCN.out.ext (HX6.out.trans HX69.out))) xu
      obtain ⟨kl, hkl⟩ : ∃ kl, k.length = kl := ⟨_, rfl⟩
      have HKL : Hid (k.length = kl) := hkl
      have hkl8 : kl ≤ 8 ∧ ml + kl ≤ p := by omega
      rw [hkl] at HAT ⊢
      have HILW : Hid (Ints W al ml fun i => (((plcs np T true).getD i 0 : Nat) : Int)) := hIL
      clear hkb hno hk hpf hmem hIk hIk2 hIK hIL hkl hkq hka
      gi_wp2_with (first | (refine ⟨trivial, ?_⟩; gi_at_call 33; refine (CallsIn.inRound l (callsIn_wide.2 HAT)).mono ?_) | fail)
      rintro e Wa ⟨rfl, hra, hxa⟩
      have HXA : Hid (Ext W Wa) := hxa
      have hc7 := hxa.keeps hc7
      have hc15 := hxa.keeps hc15
      have hc17 := hxa.keeps hc17
      have hc19 := hxa.keeps hc19
      have HBAD : Hid (Ints Wa (some ⟨W.heap.size, 0, none⟩) kl fun i => (((badL np T k).getD i 0 : Nat) : Int)) := Ints.mk fun i hi => by
        have := hra.cell hi
        rw [Nat.zero_add]
        rw [this, badL_at (by rw [HKL.out]; exact hi)]
      obtain ⟨gb, hgb⟩ : ∃ g, W.heap.size = g := ⟨_, rfl⟩
      have HGB : Hid (w.heap.size + 6 ≤ gb) := by
        show w.heap.size + 6 ≤ gb
        have h1 := HKB.out.1.size
        have h2 := HX09.out.size
        rw [hs0] at h2
        omega
      rw [hgb] at HBAD ⊢
      have HMT : Hid (∀ Wx, Ext Wa Wx → ∀ Y : World, Ext (Wx.alloc (.cells #[.slice al ml cl, .slice (some ⟨gb, 0, none⟩) kl kl] 30)) Y → Mat Y (some ⟨Wx.heap.size, 0, none⟩) 2 (fun i => if i = 0 then al else some ⟨gb, 0, none⟩) (fun i => if i = 0 then ml else kl) (fun i => if i = 0 then cl else kl) (fun i j => if i = 0 then (((plcs np T true).getD j 0 : Nat) : Int) else (((badL np T k).getD j 0 : Nat) : Int))) := fun Wx xw Y x => by
        have hxx := (Ext.refl Wx).alloc #[.slice al ml cl, .slice (some ⟨gb, 0, none⟩) kl kl] 30
        have h0 := new_cell Wx #[.slice al ml cl, .slice (some ⟨gb, 0, none⟩) kl kl] 30 0
        have h1 := new_cell Wx #[.slice al ml cl, .slice (some ⟨gb, 0, none⟩) kl kl] 30 1
        refine Mat.ext (fun r hr => ?_) x
        match r, hr with
        | 0, _ => exact ⟨⟨_, 0, rfl, h0⟩, HILW.out.ext ((HXA.out.trans xw).trans hxx)⟩
        | 1, _ => exact ⟨⟨_, 0, rfl, h1⟩, HBAD.out.ext (xw.trans hxx)⟩
      have hL2 : ∀ i, i < 2 → (if i = 0 then ml else kl) ≤ 1024 := fun i _ => by split <;> omega
      obtain ⟨ng, hng⟩ : ∃ ng, ml + kl = ng := ⟨_, rfl⟩
      have HGL : Hid ((goneL np T k).length = ng) := by show _ = _; rw [goneL_len, HML.out, HKL.out, hng]
      have HSN : Hid (sumN (fun i => if i = 0 then ml else kl) 2 = ng) := by show 0 + ml + kl = ng; omega
      have HCV : Hid (∀ i, i < ng → (catV (fun i => if i = 0 then ml else kl) (fun i j => if i = 0 then (((plcs np T true).getD j 0 : Nat) : Int) else (((badL np T k).getD j 0 : Nat) : Int)) 2)[i]? = some (.int .i64 (((goneL np T k).getD i 0 : Nat) : Int))) := fun i hi => by
        show (([] ++ (List.range ml).map fun i => Value.int .i64 (((plcs np T true).getD i 0 : Nat) : Int)) ++ (List.range kl).map fun i => Value.int .i64 (((badL np T k).getD i 0 : Nat) : Int))[i]? = _
        rw [List.nil_append]
        by_cases e : i < ml
        · rw [List.getElem?_append_left (by simpa using e), range_get _ e, goneL_lo (by rw [HML.out]; exact e)]
        · rw [List.getElem?_append_right (by simp; omega), List.length_map, List.length_range, range_get _ (by omega)]
          have := goneL_hi (n := np) (T := T) (p := k) (i := i - ml)
          rw [HML.out, show ml + (i - ml) = i by omega] at this
          rw [this]
      have hglt := fun i (hi : i < ng) => goneL_lt HMEM.out (i := i) (by rw [HGL.out]; exact hi)
      have hgne := fun i j (hij : i < j) (hj : j < ng) => goneL_ne HMEM.out hij (j := j) (by rw [HGL.out]; exact hj)
      have hngp : ng ≤ p := by omega
      obtain ⟨B, hB⟩ : ∃ B, gatP d p (secs n) T L F k = B := ⟨_, rfl⟩
      have HBB : Hid (gatP d p (secs n) T L F k = B) := hB
      have HWB : Hid (catW d p (secs n) (rebC np p (hasP np p fun r => hasB ng (fun i => (((goneL np T k).getD i 0 : Nat) : Int)) r) (gatZ np p L F)) (np - p) = B) := by
        show _ = _
        rw [← hB]
        unfold gatP gatD
        rw [← HNP.out]
        have e : (fun r : Nat => hasB ng (fun i => (((goneL np T k).getD i 0 : Nat) : Int)) r) = fun r => decide (r ∈ goneL np T k) := by
          funext r
          rw [← HGL.out]
          exact hasB_mem _ r
        rw [e]
      clear hra hxa hgb hB hng
      gi_wp2_with fail
      have HCI : Hid ((Try.f35.name == "runtime.NumGoroutine") = false ∧ Try.f35.body.isNone = false) := ⟨by kernel_rfl, by kernel_rfl⟩
      have HWI : Hid ((Try.f34.name == "runtime.NumGoroutine") = false ∧ Try.f34.body.isNone = false) := ⟨by kernel_rfl, by kernel_rfl⟩
      have HC19' : Hid (∀ Y, Ext Wa Y → Y.cell? ⟨g19, 0, none⟩ = some (.slice (some ⟨ga, 0, none⟩) np np)) := fun Y y => y.keeps hc19
      have HC15' : Hid (∀ Y, Ext Wa Y → Y.cell? ⟨g15, 0, none⟩ = some (.slice ac np cm)) := fun Y y => y.keeps hc15
      have HC7' : Hid (∀ Y, Ext Wa Y → Y.cell? ⟨w.heap.size, 0, none⟩ = some (.int .i64 p)) := fun Y y => y.keeps hc7
      have HC17' : Hid (∀ Y, Ext Wa Y → Y.cell? ⟨g17, 0, none⟩ = some (.slice al ml cl)) := fun Y y => y.keeps hc17
      have hdst : ∀ i, i < 8 → (65 + i : Nat) < 86 := fun i hi => by omega
      refine wpIn_region_fixed3 (F := Fence.wide.inRound l) (m := 10 - 1 - 1) (P := Try.prog) 8 (by kernel_rfl) (by kernel_rfl) (fun i => 65 + i) (r13V (.slice (some ⟨ga, 0, none⟩) np np) (.slice ac np cm) (.int .i64 p) (.slice al ml cl) (.slice (some ⟨gb, 0, none⟩) kl kl))
        (R13J Wa (fun Y b => Mat Y (some ⟨b, 0, none⟩) 2 (fun i => if i = 0 then al else some ⟨gb, 0, none⟩) (fun i => if i = 0 then ml else kl) (fun i => if i = 0 then cl else kl) (fun i j => if i = 0 then (((plcs np T true).getD j 0 : Nat) : Int) else (((badL np T k).getD j 0 : Nat) : Int)))
          (fun Y v => ∃ ag cg, v = .slice ag ng cg ∧ Ints Y ag ng fun i => (((goneL np T k).getD i 0 : Nat) : Int))
          (fun Y v => ∃ ad cd, v = .slice ad (128 * secs n) cd ∧ 128 * secs n ≤ cd ∧ cd ≤ 9223372036854775807 ∧ Byts Y ad (128 * secs n) B))
        (by kernel_rfl) (by kernel_rfl) (fun i j _ _ h => by have h : 65 + i = 65 + j := h; omega) (fun i hi => hdst i hi) (0, undef, undef) ⟨(Ext.refl _).drew, (fun h => by cases h), (fun h => by cases h), (fun h => by cases h)⟩ ?_ ?_
      · intro g Ls i a' w' hi8 hLi hde hcl hA hJ
        match i, hi8, hLi, hde with
        | 0, _, hLi, hde =>
          have e19 : a'.eval (.tmp 19) = .pointer (some ⟨g19, 0, none⟩) := hA.eval 19 (fun j _ => by show 65 + j ≠ 19; omega)
          exact ⟨_, rfl, fun K' hk => wpIn_runs (fun c h => by cases h) (fun c h => by cases h) (gx_load _ (.tmp 19) rfl e19 (load_oneS Try.underlying23 rfl (HC19'.out w' hJ.ext))) (hk g w' (fun _ _ _ => rfl) (hJ.next (Ext.refl _) (by omega)))⟩
        | 1, _, hLi, hde =>
          have e15 : a'.eval (.tmp 15) = .pointer (some ⟨g15, 0, none⟩) := hA.eval 15 (fun j _ => by show 65 + j ≠ 15; omega)
          exact ⟨_, rfl, fun K' hk => wpIn_runs (fun c h => by cases h) (fun c h => by cases h) (gx_load _ (.tmp 15) rfl e15 (load_oneS Try.underlying51 rfl (HC15'.out w' hJ.ext))) (hk g w' (fun _ _ _ => rfl) (hJ.next (Ext.refl _) (by omega)))⟩
        | 2, _, hLi, hde =>
          have e7 : a'.eval (.tmp 7) = .pointer (some ⟨w.heap.size, 0, none⟩) := hA.eval 7 (fun j _ => by show 65 + j ≠ 7; omega)
          exact ⟨_, rfl, fun K' hk => wpIn_runs (fun c h => by cases h) (fun c h => by cases h) (gx_load _ (.tmp 7) rfl e7 (load_oneS Try.underlying3 rfl (HC7'.out w' hJ.ext))) (hk g w' (fun _ _ _ => rfl) (hJ.next (Ext.refl _) (by omega)))⟩
        | 3, _, hLi, hde =>
          have e17 : a'.eval (.tmp 17) = .pointer (some ⟨g17, 0, none⟩) := hA.eval 17 (fun j _ => by show 65 + j ≠ 17; omega)
          exact ⟨_, rfl, fun K' hk => wpIn_runs (fun c h => by cases h) (fun c h => by cases h) (gx_load _ (.tmp 17) rfl e17 (load_oneS Try.underlying30 rfl (HC17'.out w' hJ.ext))) (hk g w' (fun _ _ _ => rfl) (hJ.next (Ext.refl _) (by omega)))⟩
        | 4, _, hLi, hde =>
          have e21 : a'.eval (.tmp 21) = .slice (some ⟨gb, 0, none⟩) kl kl := hA.eval 21 (fun j _ => by show 65 + j ≠ 21; omega)
          exact ⟨_, rfl, fun K' hk => wpIn_runs (fun c h => by cases h) (fun c h => by cases h) (gx_move (.tmp 21) rfl e21) (hk g w' (fun _ _ _ => rfl) (hJ.next (Ext.refl _) (by omega)))⟩
        | 5, _, hLi, hde =>
          have e68 : a'.eval (.tmp 68) = .slice al ml cl := hA.at 3 (by omega) (hde 3 (by kernel_rfl))
          have e69 : a'.eval (.tmp 69) = .slice (some ⟨gb, 0, none⟩) kl kl := hA.at 4 (by omega) (hde 4 (by kernel_rfl))
          refine ⟨_, rfl, fun K' hk => wpIn_runs (w' := w'.alloc (.cells #[.slice al ml cl, .slice (some ⟨gb, 0, none⟩) kl kl] 30)) (v := .slice (some ⟨w'.heap.size, 0, none⟩) 2 2) (fun c h => by cases h) (fun c h => by cases h) ?_ ?_⟩
          · exact gx_bslice2 _ 2 (.tmp 68) (.tmp 69) rfl e68 e69 (bslice_two _ _ _ _ _ _ _)
          · exact hk (w'.heap.size, g.2) _ (fun j hj hl => r13V_5 (fun h => by rw [h, hLi] at hl; cases hl)) (hJ.at5 ((Ext.refl _).alloc _ _) _ (HMT.out w' hJ.ext))
        | 6, _, hLi, hde =>
          have e70 : a'.eval (.tmp 70) = .slice (some ⟨g.1, 0, none⟩) 2 2 := hA.at 5 (by omega) (hde 5 (by kernel_rfl))
          have hm := hJ.m1 (hde 5 (by kernel_rfl)) w' (Ext.refl _)
          refine ⟨_, rfl, fun K' hk => wpIn_callsV 35 Try.func35 HCI.out.1 HCI.out.2 [.tmp 70] _ rfl [.slice (some ⟨g.1, 0, none⟩) 2 2] (by simp only [List.map_cons, List.map_nil, e70]) (fun v w'' => (∃ ag cg, v = .slice ag ng cg ∧ Ints w'' ag ng fun i => (((goneL np T k).getD i 0 : Nat) : Int)) ∧ Ext w' w'') trivial (by omega) (CallsIn.inRound l (callsIn_wide.2 ((Concat_any (some ⟨g.1, 0, none⟩) 2 2 _ _ _ _ w' (by omega) hL2 hm).mono ?_))) ?_⟩
          · rintro e Wc ⟨⟨vg, rfl, hvg⟩, hxc⟩
            rw [HSN.out] at hvg
            obtain ⟨ag, cg, rfl, hgc⟩ := own_slice hvg
            exact ⟨_, rfl, ⟨ag, cg, rfl, fun i hi => (by obtain ⟨b, o, h1, h2⟩ := hgc i hi; exact ⟨b, o, h1, h2.trans (HCV.out i hi)⟩)⟩, hxc⟩
          · rintro v Wc ⟨⟨ag, cg, rfl, hIg⟩, hxc⟩
            exact hk (g.1, .slice ag ng cg, g.2.2) _ (fun j hj hl => r13V_6 (fun h => by rw [h, hLi] at hl; cases hl)) (hJ.at6 hxc _ fun Y y => ⟨ag, cg, rfl, hIg.ext y⟩)
        | 7, _, hLi, hde =>
          have e65 : a'.eval (.tmp 65) = .slice (some ⟨ga, 0, none⟩) np np := hA.at 0 (by omega) (hde 0 (by kernel_rfl))
          have e66 : a'.eval (.tmp 66) = .slice ac np cm := hA.at 1 (by omega) (hde 1 (by kernel_rfl))
          have e67 : a'.eval (.tmp 67) = .int .i64 p := hA.at 2 (by omega) (hde 2 (by kernel_rfl))
          have e71 : a'.eval (.tmp 71) = g.2.1 := hA.at 6 (by omega) (hde 6 (by kernel_rfl))
          obtain ⟨ag, cg, hvg, hIg⟩ := hJ.m2 (hde 6 (by kernel_rfl)) w' (Ext.refl _)
          rw [hvg] at e71
          have hXc := HXA.out.trans hJ.ext
          refine ⟨_, rfl, fun K' hk => wpIn_callsV 34 Try.func34 HWI.out.1 HWI.out.2 [.tmp 65, .tmp 66, .tmp 67, .tmp 71] _ rfl [.slice (some ⟨ga, 0, none⟩) np np, .slice ac np cm, .int .i64 p, .slice ag ng cg] (by simp only [List.map_cons, List.map_nil, e65, e66, e67, e71]) (fun v w'' => (∃ ad cd, v = .slice ad (128 * secs n) cd ∧ 128 * secs n ≤ cd ∧ cd ≤ 9223372036854775807 ∧ Byts w'' ad (128 * secs n) B) ∧ Ext w' w'') trivial (by omega) (CallsIn.inRound l (callsIn_wide.2 ((without_any (some ⟨ga, 0, none⟩) np np A' C' (gatZ np p L F) ac cm d p a (secs n) ag ng cg (fun i => (goneL np T k).getD i 0) w' HO.out HNP.out hkc hglt hgne hngp (HCW.out _ hXc) (HNW.out _ hXc) hIg).mono ?_))) ?_⟩
          · rintro e Wd ⟨⟨vd, rfl, hvd⟩, hxd⟩
            rw [HWB.out] at hvd
            obtain ⟨ad, cd, hv, hb⟩ := own_byts hvd
            exact ⟨_, rfl, ⟨ad, cd, hv, (own_cap hvd hv).1, (own_cap hvd hv).2, hb⟩, hxd⟩
          · rintro v Wd ⟨⟨ad, cd, rfl, hcd1, hcd2, hb⟩, hxd⟩
            exact hk (g.1, g.2.1, .slice ad (128 * secs n) cd) _ (fun j hj hl => r13V_7 (fun h => by rw [h, hLi] at hl; cases hl)) (hJ.at7 hxd _ fun Y y => ⟨ad, cd, rfl, hcd1, hcd2, hb.ext y⟩)
        | x + 8, h, _, _ => exact absurd h (by omega)
      · intro g Ls Wd hL' hJ
        obtain ⟨g1, vg, vd⟩ := g
        have HXd : Hid (Ext Wa Wd) := hJ.ext
        obtain ⟨ag, cg, hvg, _⟩ := hJ.m2 (hL' 6 (by omega)) Wd (Ext.refl _)
        obtain ⟨ad, cd, hvd, hcd1, hcd2, hBy⟩ := hJ.m3 (hL' 7 (by omega)) Wd (Ext.refl _)
        dsimp only at hvg hvd
        subst hvg
        subst hvd
        have HBY : Hid (Byts Wd ad (128 * secs n) B) := hBy
        clear hJ hL' hBy HCI HWI HC19' HC15' HC7' HC17' hc7 hc15 hc17 hc19 HMT hdst HSN HCV hglt hgne hngp HCW HNW
        simp only [List.drop_succ_cons, List.drop_zero]
        have hput : ∀ a0 : Act, putAll (fun i => 65 + i) (r13V (.slice (some ⟨ga, 0, none⟩) np np) (.slice ac np cm) (.int .i64 p) (.slice al ml cl) (.slice (some ⟨gb, 0, none⟩) kl kl) (g1, .slice ag ng cg, .slice ad (128 * secs n) cd)) a0 8 = ((((((((a0.put (some 65) (.slice (some ⟨ga, 0, none⟩) np np)).put (some 66) (.slice ac np cm)).put (some 67) (.int .i64 p)).put (some 68) (.slice al ml cl)).put (some 69) (.slice (some ⟨gb, 0, none⟩) kl kl)).put (some 70) (.slice (some ⟨g1, 0, none⟩) 2 2)).put (some 71) (.slice ag ng cg)).put (some 72) (.slice ad (128 * secs n) cd)) := fun _ => rfl
        rw [hput]
        simp only [Act.put, List.setIfInBounds_toArray, List.set_cons_succ, List.set_cons_zero]
        clear hput
        gi_wp2_with (first | (refine ⟨trivial, ?_⟩; gi_at_call 19; refine (CallsIn.inRound l (callsIn_wide.2 (Of_any ad (128 * secs n) cd B Wd hcd1 hcd2 HBY.out))).mono ?_) | fail)
        rintro e Wf ⟨rfl, hxf⟩
        have HXW : Hid (Ext W Wf) := (HXA.out.trans HXd.out).trans hxf
        have HBF : Hid (Byts Wf ad (128 * secs n) B) := HBY.out.ext hxf
        have HSB : Hid (sumB4 (secs n) s B = ((decide (moreV (128 * secs n) (fun _ => 0) B 0 = s 0) && decide (moreV (128 * secs n) (fun _ => 0) B 1 = s 1)) && (decide (moreV (128 * secs n) (fun _ => 0) B 2 = s 2) && decide (moreV (128 * secs n) (fun _ => 0) B 3 = s 3)))) := by
          show _ = _
          unfold sumB4
          rw [show List.range 4 = [0, 1, 2, 3] by rfl]
          simp only [List.all_cons, List.all_nil, Bool.and_true, Bool.and_assoc]
        generalize moreV (128 * secs n) (fun _ => 0) B 0 = V0 at *
        generalize moreV (128 * secs n) (fun _ => 0) B 1 = V1 at *
        generalize moreV (128 * secs n) (fun _ => 0) B 2 = V2 at *
        generalize moreV (128 * secs n) (fun _ => 0) B 3 = V3 at *
        have hb11 := HKB.out.1.block _ _ (extBlk HX09.out HB11.out) rfl
        have hb11f : ∀ Y, Ext Wf Y → Y.heap[w.heap.size + 1 + 1]? = some (.cells #[.int .i64 (s 0), .int .i64 (s 1), .int .i64 (s 2), .int .i64 (s 3)] 37 (0, 0)) := fun Y y => extBlk (HXW.out.trans y) hb11
        have HB11F : Hid (∀ Y, Ext Wf Y → Y.heap[w.heap.size + 1 + 1]? = some (.cells #[.int .i64 (s 0), .int .i64 (s 1), .int .i64 (s 2), .int .i64 (s 3)] 37 (0, 0))) := hb11f
        have hn128 : n ≤ 128 * secs n := by unfold secs; omega
        by_cases hall : (V0 = s 0 ∧ V1 = s 1) ∧ (V2 = s 2 ∧ V3 = s 3)
        · obtain ⟨⟨rfl, rfl⟩, rfl, rfl⟩ := hall
          have hxv := (Ext.refl Wf).alloc #[.int .i64 (s 0), .int .i64 (s 1), .int .i64 (s 2), .int .i64 (s 3)] 37
          have hx9v : Ext W (Wf.alloc (.cells #[.int .i64 (s 0), .int .i64 (s 1), .int .i64 (s 2), .int .i64 (s 3)] 37)) := HXW.out.trans hxv
          have hv0 : (Wf.alloc (.cells #[.int .i64 (s 0), .int .i64 (s 1), .int .i64 (s 2), .int .i64 (s 3)] 37)).cell? ⟨w.heap.size + 1 + 1, 0, none⟩ = some (.int .i64 (s 0)) := by rw [cell_of_row _ _ 0 _ _ _ (hb11f _ hxv)]; rfl
          have hv1 : (Wf.alloc (.cells #[.int .i64 (s 0), .int .i64 (s 1), .int .i64 (s 2), .int .i64 (s 3)] 37)).cell? ⟨w.heap.size + 1 + 1, 1, none⟩ = some (.int .i64 (s 1)) := by rw [cell_of_row _ _ 1 _ _ _ (hb11f _ hxv)]; rfl
          have hv2 : (Wf.alloc (.cells #[.int .i64 (s 0), .int .i64 (s 1), .int .i64 (s 2), .int .i64 (s 3)] 37)).cell? ⟨w.heap.size + 1 + 1, 2, none⟩ = some (.int .i64 (s 2)) := by rw [cell_of_row _ _ 2 _ _ _ (hb11f _ hxv)]; rfl
          have hv3 : (Wf.alloc (.cells #[.int .i64 (s 0), .int .i64 (s 1), .int .i64 (s 2), .int .i64 (s 3)] 37)).cell? ⟨w.heap.size + 1 + 1, 3, none⟩ = some (.int .i64 (s 3)) := by rw [cell_of_row _ _ 3 _ _ _ (hb11f _ hxv)]; rfl
          have hv9 : (Wf.alloc (.cells #[.int .i64 (s 0), .int .i64 (s 1), .int .i64 (s 2), .int .i64 (s 3)] 37)).cell? ⟨w.heap.size + 1, 0, none⟩ = some (.int .i64 n) := hx9v.keeps (HKB.out.1.keeps (HC9.out W9 HX09.out))
          have hb12 := extBlk hx9v (HKB.out.1.block _ _ (extBlk HX09.out HB12.out) rfl)
          have hb13 := extBlk hx9v (HKB.out.1.block _ _ (extBlk HX09.out HB13.out) rfl)
          have hb14 := extBlk hx9v (HKB.out.1.block _ _ (extBlk HX09.out HB14.out) rfl)
          have HB12V : Hid ((Wf.alloc (.cells #[.int .i64 (s 0), .int .i64 (s 1), .int .i64 (s 2), .int .i64 (s 3)] 37)).heap[w.heap.size + 1 + 1 + 1]? = some (.cells #[.slice none 0 0] 22 (0, 0))) := hb12
          have HB13V : Hid ((Wf.alloc (.cells #[.int .i64 (s 0), .int .i64 (s 1), .int .i64 (s 2), .int .i64 (s 3)] 37)).heap[w.heap.size + 1 + 1 + 1 + 1]? = some (.cells #[.slice none 0 0] 30 (0, 0))) := hb13
          have HB14V : Hid ((Wf.alloc (.cells #[.int .i64 (s 0), .int .i64 (s 1), .int .i64 (s 2), .int .i64 (s 3)] 37)).heap[w.heap.size + 1 + 1 + 1 + 1 + 1]? = some (.cells #[.int .i64 0] 24 (0, 0))) := hb14
          have HBV : Hid (Byts (Wf.alloc (.cells #[.int .i64 (s 0), .int .i64 (s 1), .int .i64 (s 2), .int .i64 (s 3)] 37)) ad n B) := (show Byts _ ad n B from fun i hi => (HBF.out.ext hxv) i (by omega))
          have HIV : Hid (Ints (Wf.alloc (.cells #[.int .i64 (s 0), .int .i64 (s 1), .int .i64 (s 2), .int .i64 (s 3)] 37)) (some ⟨gb, 0, none⟩) kl fun i => (((badL np T k).getD i 0 : Nat) : Int)) := HBAD.out.ext ((HXd.out.trans hxf).trans hxv)
          have HXV : Hid (Ext W (Wf.alloc (.cells #[.int .i64 (s 0), .int .i64 (s 1), .int .i64 (s 2), .int .i64 (s 3)] 37))) := hx9v
          clear hxf HXd HBY hb11 hb11f hxv hb12 hb13 hb14 hx9v
          gi_upto_region 16 with fail
          generalize Wf.alloc (.cells #[.int .i64 (s 0), .int .i64 (s 1), .int .i64 (s 2), .int .i64 (s 3)] 37) = Wv at *
          clear hv0 hv1 hv2 hv3
          have hc12 := row1_cell HB12V.out
          have hf12 := frozen_of_row _ _ 0 _ _ HB12V.out
          have hb13' : (Wv.setCell ⟨w.heap.size + 1 + 1 + 1, 0, none⟩ (.slice ad n n)).heap[w.heap.size + 1 + 1 + 1 + 1]? = some (.cells #[.slice none 0 0] 30 (0, 0)) := (row1_oth (by omega) _).trans HB13V.out
          have hb14' : ((Wv.setCell ⟨w.heap.size + 1 + 1 + 1, 0, none⟩ (.slice ad n n)).setCell ⟨w.heap.size + 1 + 1 + 1 + 1, 0, none⟩ (.slice (some ⟨gb, 0, none⟩) kl kl)).heap[w.heap.size + 1 + 1 + 1 + 1 + 1]? = some (.cells #[.int .i64 0] 24 (0, 0)) := (row1_oth (by omega) _).trans ((row1_oth (by omega) _).trans HB14V.out)
          have hc13 := row1_cell hb13'
          have hf13 := frozen_of_row _ _ 0 _ _ hb13'
          have hc14 := row1_cell hb14'
          have hf14 := frozen_of_row _ _ 0 _ _ hb14'
          clear hb13' hb14'
          have hsl := sub_hm (P := Try.prog) Try.underlying22 size8 ad (128 * secs n) cd n (by omega) Wv
          gi_wp2_with fail
          have hko : KeepsOthers W Wv := ⟨HXV.out.size, fun k o hk _ => (HXV.out.below.block k (Array.getElem?_eq_some_iff.1 hk).1).trans hk⟩
          have hgf : gatF d p (secs n) T L F s = some k := gat_some HA.out HNO.out HAK.out (by rw [HBB.out, HSB.out]; simp)
          have hbl : Below w.heap.size w Wv := (HXw.out.below.trans (HKB.out.2.mono HXw.out.size)).trans (HXV.out.below.mono (Nat.le_trans HXw.out.size HKB.out.1.size))
          exact ⟨((hko.trans (KeepsOthers.setCell _ _ _)).trans (KeepsOthers.setCell _ _ _)).trans (KeepsOthers.setCell _ _ _), GatX.make kl kl hbl hgf HKL.out HB12V.out HB13V.out HB14V.out (by omega) (by rw [HBB.out]; exact HBV.out) (by have := HGB.out; omega) (by rw [← HNP.out]; exact HIV.out)⟩
        · have hxv := (Ext.refl Wf).alloc #[.int .i64 V0, .int .i64 V1, .int .i64 V2, .int .i64 V3] 37
          have hv0 : (Wf.alloc (.cells #[.int .i64 V0, .int .i64 V1, .int .i64 V2, .int .i64 V3] 37)).cell? ⟨w.heap.size + 1 + 1, 0, none⟩ = some (.int .i64 (s 0)) := by rw [cell_of_row _ _ 0 _ _ _ (hb11f _ hxv)]; rfl
          have hv1 : (Wf.alloc (.cells #[.int .i64 V0, .int .i64 V1, .int .i64 V2, .int .i64 V3] 37)).cell? ⟨w.heap.size + 1 + 1, 1, none⟩ = some (.int .i64 (s 1)) := by rw [cell_of_row _ _ 1 _ _ _ (hb11f _ hxv)]; rfl
          have hv2 : (Wf.alloc (.cells #[.int .i64 V0, .int .i64 V1, .int .i64 V2, .int .i64 V3] 37)).cell? ⟨w.heap.size + 1 + 1, 2, none⟩ = some (.int .i64 (s 2)) := by rw [cell_of_row _ _ 2 _ _ _ (hb11f _ hxv)]; rfl
          have hv3 : (Wf.alloc (.cells #[.int .i64 V0, .int .i64 V1, .int .i64 V2, .int .i64 V3] 37)).cell? ⟨w.heap.size + 1 + 1, 3, none⟩ = some (.int .i64 (s 3)) := by rw [cell_of_row _ _ 3 _ _ _ (hb11f _ hxv)]; rfl
          have HNF : Hid (sumB4 (secs n) s B = false) := by
            show _ = _
            rw [HSB.out]
            cases e : ((decide (V0 = s 0) && decide (V1 = s 1)) && (decide (V2 = s 2) && decide (V3 = s 3))) with
            | false => rfl
            | true =>
              simp only [Bool.and_eq_true, decide_eq_true_eq] at e
              exact absurd e hall
          clear hxf HXd HBY hb11 hb11f hxv HSB
          gi_upto_region 16 with fail
          all_goals first
            | exact absurd ⟨⟨rfl, rfl⟩, rfl, rfl⟩ hall
            | (refine ⟨HXW.out.alloc _ _, HKB.out.trans (Kb.ext (HXW.out.alloc _ _) HKB.out.1.size), fun i k' hi hk' => ?_⟩
               by_cases e : i < x
               · exact HNO.out i k' e hk'
               · have ei : i = x := by omega
                 subst ei
                 rw [HAK.out] at hk'
                 cases hk'
                 rw [HBB.out]
                 exact HNF.out)
    case done =>
      rintro D W hD ⟨hkb, hno⟩ hK
      have h12 := hkb.1.block _ _ (extBlk HX09.out HB12.out) rfl
      have h13 := hkb.1.block _ _ (extBlk HX09.out HB13.out) rfl
      have h14 := hkb.1.block _ _ (extBlk HX09.out HB14.out) rfl
      have HS3 : Hid _ := three_set h12 h13 h14 (.slice none 0 0) (.slice none 0 0) (.int .i64 11)
      have hc12 := row1_cell h12
      have hf12 := frozen_of_row _ _ 0 _ _ h12
      have hb13' : (W.setCell ⟨w.heap.size + 1 + 1 + 1, 0, none⟩ (.slice none 0 0)).heap[w.heap.size + 1 + 1 + 1 + 1]? = some (.cells #[.slice none 0 0] 30 (0, 0)) := (row1_oth (by omega) _).trans h13
      have hb14' : ((W.setCell ⟨w.heap.size + 1 + 1 + 1, 0, none⟩ (.slice none 0 0)).setCell ⟨w.heap.size + 1 + 1 + 1 + 1, 0, none⟩ (.slice none 0 0)).heap[w.heap.size + 1 + 1 + 1 + 1 + 1]? = some (.cells #[.int .i64 0] 24 (0, 0)) := (row1_oth (by omega) _).trans ((row1_oth (by omega) _).trans h14)
      have hc13 := row1_cell hb13'
      have hf13 := frozen_of_row _ _ 0 _ _ hb13'
      have hc14 := row1_cell hb14'
      have hf14 := frozen_of_row _ _ 0 _ _ hb14'
      have HKK : Hid (W.heap[D]? = some (.deferred (some []))) := hK
      have HKB : Hid (Kb W9.heap.size W9 W) := hkb
      have HNO : Hid (∀ i k, i < All.length → All[i]? = some k → sumB4 (secs n) s (gatP d p (secs n) T L F k) = false) := hno
      clear h12 h13 h14 hb13' hb14' hkb hno hK
      go_wp2_with fail
      have hD6 : w.heap.size + 6 ≤ D := by
        have h2 := HX09.out.size
        rw [hs0] at h2
        omega
      have hK2 : (((W.setCell ⟨w.heap.size + 1 + 1 + 1, 0, none⟩ (.slice none 0 0)).setCell ⟨w.heap.size + 1 + 1 + 1 + 1, 0, none⟩ (.slice none 0 0)).setCell ⟨w.heap.size + 1 + 1 + 1 + 1 + 1, 0, none⟩ (.int .i64 11)).heap[D]? = some (.deferred (some [])) := by
        rw [row1_oth (by omega), row1_oth (by omega), row1_oth (by omega)]
        exact HKK.out
      have hbl : Below w.heap.size w W := HXw.out.below.trans (HKB.out.2.mono HXw.out.size)
      have hbl2 := ((hbl.setCell (p := ⟨w.heap.size + 1 + 1 + 1, 0, none⟩) (show w.heap.size ≤ w.heap.size + 1 + 1 + 1 by omega) (.slice none 0 0)).setCell (p := ⟨w.heap.size + 1 + 1 + 1 + 1, 0, none⟩) (show w.heap.size ≤ w.heap.size + 1 + 1 + 1 + 1 by omega) (.slice none 0 0)).setCell (p := ⟨w.heap.size + 1 + 1 + 1 + 1 + 1, 0, none⟩) (show w.heap.size ≤ w.heap.size + 1 + 1 + 1 + 1 + 1 by omega) (.int .i64 11)
      refine ⟨by simp, .inl ⟨_, _, rfl, run_takeDeferred hK2, ?_⟩⟩
      obtain ⟨s1, s2, s3⟩ := HS3.out
      refine ⟨_, res_three ((World.putObj_heap_other (by omega)).trans s1) ((World.putObj_heap_other (by omega)).trans s2) ((World.putObj_heap_other (by omega)).trans s3) rfl _ rfl rfl rfl, ?_, ⟨hbl2.trans (Kb.put (n₀ := w.heap.size) _ hK2 rfl (by omega)).2⟩⟩
      unfold GatRes
      rw [gat_none HA.out HNO.out]
    case stop =>
      rintro D W hD hg hK
      obtain ⟨hx, k, ad, ab, cb, hgf, h12, h13, h14, hby, hin⟩ := hg
      have hD6 : w.heap.size + 6 ≤ D := by
        have h2 := HX09.out.size
        rw [hs0] at h2
        omega
      have hkc := (Kc.refl W).put (o' := .deferred none) hK rfl
      gi_wp2
      refine ⟨by simp, .inl ⟨_, _, rfl, run_takeDeferred hK, ?_⟩⟩
      refine ⟨_, res_three ((World.putObj_heap_other (by omega)).trans h12) ((World.putObj_heap_other (by omega)).trans h13) ((World.putObj_heap_other (by omega)).trans h14) rfl _ rfl rfl rfl, ?_, ⟨hx.trans (Kb.put (n₀ := w.heap.size) _ hK rfl (by omega)).2⟩⟩
      unfold GatRes
      rw [hgf]
      exact ⟨ad, ab, cb, rfl, hkc.byts hby, hkc.ints hin⟩
end Go.Proofs.Ythgbfakmkdifbaa
