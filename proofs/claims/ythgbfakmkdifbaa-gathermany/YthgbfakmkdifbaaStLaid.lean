/-
  quicksetkeep.laid: a block's columns as pieces, in new memory, and its sum.
-/
import Derived.Test.YthgbfakmkdifbaaStBlk
import Derived.Test.YthgbfakmkdifbaaStp
import Derived.Test.YthgbfakmkdifbaaStGat
import Derived.Test.YthgbfakmkdifbaaEls
namespace Go.Proofs.Ythgbfakmkdifbaa
open Go.RowKit Go.Deep E
def pcC (A : Nat → Option Addr) (L C : Nat → Nat) (S : Nat → Bool) (r : Nat) : List Value := if S r then [.bool true, .slice none 0 0] else [.bool false, .slice (A r) (L r) (C r)]
theorem pcC_len (A : Nat → Option Addr) (L C : Nat → Nat) (S : Nat → Bool) (r : Nat) : (pcC A L C S r).length = 2 := by unfold pcC; split <;> rfl
theorem infoPc : (Try.prog.info? 42).map (fun i => (i.zero, i.size, i.bytes)) = some (some (.agg #[.bool false, .slice none 0 0]), 2, 32) := by kernel_rfl
def sumVs (c : Nat) (B : Nat → E) : Value := .agg #[.int .i64 (moreV (128 * c) (fun _ => 0) B 0), .int .i64 (moreV (128 * c) (fun _ => 0) B 1), .int .i64 (moreV (128 * c) (fun _ => 0) B 2), .int .i64 (moreV (128 * c) (fun _ => 0) B 3)]
/-- the pieces lie there, those of S lost -/
def Laid (w w' : World) (v : Value) (d p c n : Nat) (f : Nat → E) (A : Nat → Option Addr) (C : Nat → Nat) (S : Nat → Bool) : Prop :=
  ∃ wm, Ext w wm ∧ Ext wm w' ∧ (∀ r, r < colN d p c → Byts wm (A r) (wdB d p c r) (layF d p c n f r)) ∧ w'.ownsRow wm.heap.size 42 2 v (colN d p c) ((List.range (colN d p c)).map (pcC A (wdB d p c) C S)).flatten
theorem Ext.both {a b : World} (h : Ext a b) (p : Addr) (_hp : p.block < a.heap.size) (u : Value) : Ext (a.setCell p u) (b.setCell p u) := by
  refine ⟨h.below.os, h.below.tape, h.below.output, ?_, fun k hk => ?_⟩
  · have := h.below.size
    simpa [World.setCell] using this
  · have hk' : k < a.heap.size := by simpa [World.setCell] using hk
    have := h.below.block k hk'
    simp only [World.setCell, Array.getElem?_modify, this]
theorem results_tct {P : Program} {fn : Func} {x y z : Tmp} {t : TypeId} (h : fn.results = #[.tmp x, .cell y t, .tmp z]) (tmps : Array Value) (w : World) (g : Nat) (t2 : TypeId) (cs : Array Value) (fr : Nat × Nat) (d : TypeDesc)
    (hp : tmps.getD y undef = .pointer (some ⟨g, 0, none⟩)) (hg : w.heap[g]? = some (.cells cs t2 fr)) (hu : P.underlying t = some d) (hd : (match d with | .struct _ | .array _ _ => true | _ => false) = true) (hi : (P.info? t).map (·.size) = some cs.size) :
    (results fn tmps).run P w = .ok (.tuple #[tmps.getD x undef, .agg cs, tmps.getD z undef]) w := by
  have hp' : tmps[y]?.getD undef = .pointer (some ⟨g, 0, none⟩) := by simpa using hp
  simp [results, h, hp', asAddr, run_loadVar_row w g t2 t cs fr d hg hu hd hi]
theorem sumInfo : (Try.prog.info? 37).map (·.size) = some 4 := by kernel_rfl
set_option maxRecDepth 100000 in
set_option maxHeartbeats 1600000 in
theorem laid_any (d p a n : Nat) (b : Option Addr) (cn : Nat) (f : Nat → E) (w : World) (ho : StOk d p (secs n)) (ha : a ≤ 65536) (hs : szOk n = true) (h : Byts w b n f) :
    Calls Try.prog 15 #[.int .i64 d, .int .i64 p, .int .i64 a, .slice b n cn] w fun e w' => ∃ v A C, e = .returned (.tuple #[v, sumVs (secs n) (padZ n f), .bool true]) ∧ Laid w w' v d p (secs n) n f A C (fun _ => false) := by
  have HB : Hid (Byts w b n f) := h
  have HST : Hid (stOkB d p a n = true) := ok_st ho ha hs
  have hsn := (szOk_iff n).1 hs
  have hN := ho.N
  obtain ⟨N, hNN⟩ : ∃ N, colN d p (secs n) = N := ⟨_, rfl⟩
  have HN : Hid (colN d p (secs n) = N) := hNN
  rw [hNN] at hN
  have HME : Hid (moreE (128 * secs n) = 0) := by
    show _ = _
    unfold moreE
    rw [if_pos (by omega)]
  clear h ho ha hs hNN
  go_enter Try.func15, Try.ntmps15
  go_wp2_with fail
  obtain ⟨W0, hW0⟩ : ∃ W0, (w.alloc (.cells #[.int .i64 0, .int .i64 0, .int .i64 0, .int .i64 0] 37)) = W0 := ⟨_, rfl⟩
  have HX0 : Hid (Ext w W0) := by show Ext w W0; rw [← hW0]; exact (Ext.refl w).alloc _ _
  have HB0 : Hid (W0.heap[w.heap.size]? = some (.cells #[.int .i64 0, .int .i64 0, .int .i64 0, .int .i64 0] 37 (0, 0))) := by show _ = _; rw [← hW0]; exact heap_alloc_new _ _
  have hs0 : W0.heap.size = w.heap.size + 1 := by rw [← hW0]; simp
  rw [hW0]
  clear hW0
  refine (Lay_any d p a b n cn f W0 (by omega) (HB.out.ext HX0.out)).mono ?_
  rintro e W1 ⟨hr, hx1⟩
  unfold LayRes at hr
  rw [HST.out, if_pos rfl] at hr
  obtain ⟨al, cl, A, C, rfl, hC⟩ := hr
  rw [Int.toNat_natCast, Int.toNat_natCast] at hC ⊢
  rw [HN.out] at hC ⊢
  have HX1 : Hid (Ext w W1) := HX0.out.trans hx1
  have HX01 : Hid (Ext W0 W1) := hx1
  have HC1 : Hid (Cols W1 al N A (wdB d p (secs n)) C (layF d p (secs n) n f)) := hC
  clear hC hx1
  go_wp2_with fail
  refine (padded_any b n cn f W1 (by omega) (HB.out.ext HX1.out)).mono ?_
  rintro e W2 ⟨⟨vp, rfl, hvp⟩, hx2⟩
  obtain ⟨ad, cd, rfl, hby, hcd1, hcd2⟩ := own_room hvp
  have HBY : Hid (Byts W2 ad (128 * secs n) (padZ n f)) := hby
  have HX2 : Hid (Ext W1 W2) := hx2
  clear hvp hby hx2
  go_wp2_with fail
  refine (Of_any ad (128 * secs n) cd (padZ n f) W2 hcd1 hcd2 HBY.out).mono ?_
  rintro e W3 ⟨rfl, hx3⟩
  rw [HME.out]
  have hlen : ¬ (N : Int) ≤ (p : Int) := by omega
  have HX3 : Hid (Ext W1 W3) := HX2.out.trans hx3
  clear hx3
  obtain ⟨SV, hSV⟩ : ∃ SV, sumVs (secs n) (padZ n f) = SV := ⟨_, rfl⟩
  unfold sumVs at hSV
  obtain ⟨V0, h0⟩ : ∃ V, moreV (128 * secs n) (fun _ => 0) (padZ n f) 0 = V := ⟨_, rfl⟩
  obtain ⟨V1, h1⟩ : ∃ V, moreV (128 * secs n) (fun _ => 0) (padZ n f) 1 = V := ⟨_, rfl⟩
  obtain ⟨V2, h2⟩ : ∃ V, moreV (128 * secs n) (fun _ => 0) (padZ n f) 2 = V := ⟨_, rfl⟩
  obtain ⟨V3, h3⟩ : ∃ V, moreV (128 * secs n) (fun _ => 0) (padZ n f) 3 = V := ⟨_, rfl⟩
  have HSV : Hid (sumVs (secs n) (padZ n f) = .agg #[.int .i64 V0, .int .i64 V1, .int .i64 V2, .int .i64 V3]) := by
    show _ = _
    unfold sumVs
    rw [h0, h1, h2, h3]
  rw [h0, h1, h2, h3]
  clear h0 h1 h2 h3 hSV SV
  have hdec : decide (N ≤ p) = false := by rw [decide_eq_false_iff_not]; omega
  go_upto_region 5 with fail
  try rw [hdec]
  clear hdec
  obtain ⟨W4, hW4⟩ : ∃ W4, (W3.alloc (.cells #[.int .i64 V0, .int .i64 V1, .int .i64 V2, .int .i64 V3] 37)) = W4 := ⟨_, rfl⟩
  have hx14 : Ext W1 W4 := by rw [← hW4]; exact HX3.out.alloc _ _
  have HX4 : Hid (Ext W1 W4) := hx14
  have HB4 : Hid (W4.heap[W3.heap.size]? = some (.cells #[.int .i64 V0, .int .i64 V1, .int .i64 V2, .int .i64 V3] 37 (0, 0))) := by show _ = _; rw [← hW4]; exact heap_alloc_new _ _
  have HC4 : Hid (Cols W4 al N A (wdB d p (secs n)) C (layF d p (secs n) n f)) := HC1.out.ext hx14
  obtain ⟨g13, hg13⟩ : ∃ g, W3.heap.size = g := ⟨_, rfl⟩
  rw [hg13] at HB4 ⊢
  rw [hW4]
  clear hW4 hx14 hg13
  go_wp2_with fail
  go_loopw [15, 16] (fun v i wr => ∃ k : Nat, k ≤ N ∧ i = .int .i64 k ∧ Ext W4 wr ∧ wr.ownsRow W4.heap.size 42 2 v k ((List.range k).map (pcC A (wdB d p (secs n)) C fun _ => false)).flatten) (fun _ i _ => N - (intOf i).toNat)
  case atStart => exact ⟨0, Nat.zero_le _, rfl, Ext.refl _, World.ownsRow_nil _ _ _ _⟩
  case round =>
    obtain ⟨k, hk, rfl, hxr, hown⟩ := hrel
    have HO : Hid (wr.ownsRow W4.heap.size 42 2 u15 k ((List.range k).map (pcC A (wdB d p (secs n)) C fun _ => false)).flatten) := hown
    clear hown
    have hsz := hxr.size
    by_cases hkn : k < N
    · have i1 : (k : Int) < (N : Int) := by omega
      obtain ⟨⟨bb, oo, rfl, hck⟩, _⟩ := (HC4.out.ext hxr) k hkn
      go_wp2_with (first | (at_builtin; refine append_els _ rfl (.tmp 50) (.tmp 56) 35 rfl 2 (by omega) W4.heap.size 42 (.agg #[.bool false, .slice none 0 0]) 32 Try.underlying35 infoPc rfl u15 k ((List.range k).map (pcC A (wdB d p (secs n)) C fun _ => false)) rfl (own_ext HO.out ((Ext.refl wr).alloc _ _)) (some ⟨wr.heap.size, 0, none⟩) 1 1 [[.bool false, .slice (A k) (wdB d p (secs n) k) (C k)]] rfl rfl (els_new _ _ rfl _ _ _) (Szd.one rfl) ?_ (by omega) (by omega) (by omega) ?_ ?_) | go_in)
      · intro cs hcs v hv
        rw [List.mem_singleton.1 hcs] at hv
        simp only [List.mem_cons, List.not_mem_nil, or_false] at hv
        rcases hv with rfl | rfl <;> rfl
      · exact (hxr.alloc _ _).size
      intro v5 w5 hown5 hgrow5
      have x5 : Ext wr (wr.alloc (.cells #[.bool false, .slice (A k) (wdB d p (secs n) k) (C k)] 42)) := (Ext.refl wr).alloc _ _
      have HN5 : Hid (Ext W4 w5 ∧ w5.ownsRow W4.heap.size 42 2 v5 (k + 1) ((List.range (k + 1)).map (pcC A (wdB d p (secs n)) C fun _ => false)).flatten) := by
        refine ⟨(hxr.alloc _ _).grow hgrow5 fun b hb => (own_geD HO.out hb), ?_⟩
        rw [List.range_succ, List.map_append, List.flatten_append]
        have e : pcC A (wdB d p (secs n)) C (fun _ => false) k = [.bool false, .slice (A k) (wdB d p (secs n) k) (C k)] := by unfold pcC; rw [if_neg (by simp)]
        simpa [e] using hown5
      clear hown5 hgrow5 x5 HO hck
      go_wp2_with fail
      go_roundw
      case rel => exact ⟨k + 1, by omega, by go_num, HN5.out.1, HN5.out.2⟩
      case measure => simp [intOf]; omega
    · obtain rfl : k = N := by omega
      have hb4 := extBlk hxr HB4.out
      have hb0 := extBlk ((HX01.out.trans HX4.out).trans hxr) HB0.out
      have e0 : wr.cell? ⟨g13, 0, none⟩ = some (.int .i64 V0) := by rw [cell_of_row _ _ 0 _ _ _ hb4]; rfl
      have e1 : wr.cell? ⟨g13, 1, none⟩ = some (.int .i64 V1) := by rw [cell_of_row _ _ 1 _ _ _ hb4]; rfl
      have e2 : wr.cell? ⟨g13, 2, none⟩ = some (.int .i64 V2) := by rw [cell_of_row _ _ 2 _ _ _ hb4]; rfl
      have e3 : wr.cell? ⟨g13, 3, none⟩ = some (.int .i64 V3) := by rw [cell_of_row _ _ 3 _ _ _ hb4]; rfl
      have r0 : wr.cell? ⟨w.heap.size, 0, none⟩ = some (.int .i64 0) := by rw [cell_of_row _ _ 0 _ _ _ hb0]; rfl
      have r1 : wr.cell? ⟨w.heap.size, 1, none⟩ = some (.int .i64 0) := by rw [cell_of_row _ _ 1 _ _ _ hb0]; rfl
      have r2 : wr.cell? ⟨w.heap.size, 2, none⟩ = some (.int .i64 0) := by rw [cell_of_row _ _ 2 _ _ _ hb0]; rfl
      have r3 : wr.cell? ⟨w.heap.size, 3, none⟩ = some (.int .i64 0) := by rw [cell_of_row _ _ 3 _ _ _ hb0]; rfl
      have z0 := frozen_of_row _ _ 0 _ _ hb0
      have z1 := frozen_of_row _ _ 1 _ _ hb0
      have z2 := frozen_of_row _ _ 2 _ _ hb0
      have z3 := frozen_of_row _ _ 3 _ _ hb0
      have HBR : Hid (wr.heap[w.heap.size]? = some (.cells #[.int .i64 0, .int .i64 0, .int .i64 0, .int .i64 0] 37 (0, 0))) := hb0
      clear hb4 hb0
      go_upto_region 10 with fail
      go_region_with fail
      simp only [List.getElem_toArray, List.getElem_cons_succ, List.getElem_cons_zero, Act.put, List.setIfInBounds_toArray, List.set_cons_succ, List.set_cons_zero]
      go_wp2_with fail
      have h1 := heap_setCell_same wr w.heap.size 0 _ _ (.int .i64 V0) HBR.out
      have h2 := heap_setCell_same _ w.heap.size 1 _ _ (.int .i64 V1) h1
      have h3 := heap_setCell_same _ w.heap.size 2 _ _ (.int .i64 V2) h2
      have h4 := heap_setCell_same _ w.heap.size 3 _ _ (.int .i64 V3) h3
      have hq4 : wr.heap.size ≥ W4.heap.size := hsz
      have hg4 : w.heap.size < W4.heap.size := by
        have := (HX01.out.trans HX4.out).size
        omega
      have hXm : Ext ((((W4.setCell ⟨w.heap.size, 0, none⟩ (.int .i64 V0)).setCell ⟨w.heap.size, 1, none⟩ (.int .i64 V1)).setCell ⟨w.heap.size, 2, none⟩ (.int .i64 V2)).setCell ⟨w.heap.size, 3, none⟩ (.int .i64 V3)) ((((wr.setCell ⟨w.heap.size, 0, none⟩ (.int .i64 V0)).setCell ⟨w.heap.size, 1, none⟩ (.int .i64 V1)).setCell ⟨w.heap.size, 2, none⟩ (.int .i64 V2)).setCell ⟨w.heap.size, 3, none⟩ (.int .i64 V3)) :=
        (((hxr.both _ hg4 _).both _ (by rw [World.size_setCell]; exact hg4) _).both _ (by rw [World.size_setCell, World.size_setCell]; exact hg4) _).both _ (by rw [World.size_setCell, World.size_setCell, World.size_setCell]; exact hg4) _
      have hw6 : Wro (· = w.heap.size) wr ((((wr.setCell ⟨w.heap.size, 0, none⟩ (.int .i64 V0)).setCell ⟨w.heap.size, 1, none⟩ (.int .i64 V1)).setCell ⟨w.heap.size, 2, none⟩ (.int .i64 V2)).setCell ⟨w.heap.size, 3, none⟩ (.int .i64 V3)) :=
        ((((Wro.refl (· = w.heap.size) wr).setCell (p := ⟨w.heap.size, 0, none⟩) rfl _).setCell (p := ⟨w.heap.size, 1, none⟩) rfl _).setCell (p := ⟨w.heap.size, 2, none⟩) rfl _).setCell (p := ⟨w.heap.size, 3, none⟩) rfl _
      have hO6 := own_wro2 HO.out hw6 fun b hb q => by
        have := (own_ge HO.out q).1
        omega
      have hHW : Ext w ((((W4.setCell ⟨w.heap.size, 0, none⟩ (.int .i64 V0)).setCell ⟨w.heap.size, 1, none⟩ (.int .i64 V1)).setCell ⟨w.heap.size, 2, none⟩ (.int .i64 V2)).setCell ⟨w.heap.size, 3, none⟩ (.int .i64 V3)) :=
        ((((HX1.out.trans HX4.out).setCell (p := ⟨w.heap.size, 0, none⟩) (Nat.le_refl _) _).setCell (p := ⟨w.heap.size, 1, none⟩) (Nat.le_refl _) _).setCell (p := ⟨w.heap.size, 2, none⟩) (Nat.le_refl _) _).setCell (p := ⟨w.heap.size, 3, none⟩) (Nat.le_refl _) _
      refine bodyPost_ret (results_tct rfl _ _ w.heap.size 37 #[.int .i64 V0, .int .i64 V1, .int .i64 V2, .int .i64 V3] (0, 0) _ rfl h4 Try.underlying37 rfl sumInfo) rfl ?_
      refine ⟨u15, A, C, by rw [HSV.out]; rfl, _, hHW, hXm.trans (Ext.refl _).drew, fun r hr => ?_, ?_⟩
      · rw [HN.out] at hr
        intro i hi
        obtain ⟨bb, oo, e, hv⟩ := (HC4.out r hr).2 i hi
        refine ⟨bb, oo, e, ?_⟩
        have hne : bb ≠ w.heap.size := fun q => by
          subst q
          rw [cell_of_row _ _ _ _ _ _ (extBlk (HX01.out.trans HX4.out) HB0.out)] at hv
          match oo + i, hv with
          | 0, hv => simp at hv
          | 1, hv => simp at hv
          | 2, hv => simp at hv
          | 3, hv => simp at hv
          | x + 4, hv => simp at hv
        rw [cell_other _ ⟨w.heap.size, 3, none⟩ ⟨bb, oo + i, none⟩ _ hne, cell_other _ ⟨w.heap.size, 2, none⟩ ⟨bb, oo + i, none⟩ _ hne, cell_other _ ⟨w.heap.size, 1, none⟩ ⟨bb, oo + i, none⟩ _ hne, cell_other _ ⟨w.heap.size, 0, none⟩ ⟨bb, oo + i, none⟩ _ hne]
        exact hv
      · rw [HN.out, World.size_setCell, World.size_setCell, World.size_setCell, World.size_setCell]
        exact own_ext hO6 (Ext.refl _).drew
end Go.Proofs.Ythgbfakmkdifbaa
