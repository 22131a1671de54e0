/-
  drive: lay, fresh: what comes onto the plate; a new drive.
-/
import Derived.Test.YtgboboojjboocaaChecked
import Derived.WalkKit
import Derived.BigQuiet
import Derived.Laws.Tables
import Derived.Laws.Rows
import Derived.Test.YtgboboojjboocaaDrMem
namespace Go.Proofs.Ytgboboojjboocaa
open Go.RowKit Go.Deep E
set_option maxRecDepth 100000 in
set_option maxHeartbeats 1600000 in
theorem lay_any (base gd gp n k : Nat) (PL : List ((Nat → E) × Bool)) (W : List (Nat × (Nat → E))) (wv : Value) (dead : Bool) (c : Nat → E) (w : World) (_hn : n ≤ 512) (hk : k < n) (h : DSt w base gd gp n PL W wv dead) :
    Calls Try.prog 25 #[.pointer (some ⟨gd, 0, none⟩), .int .i64 k, .agg (cts c).toArray] w fun e w' => e = .returned (.tuple #[]) ∧ DSt w' base gd gp n (PL.set k (c, false)) W wv dead ∧ Wro (· = gp) w w' := by
  have HD : Hid (DSt w base gd gp n PL W wv dead) := h
  clear h
  go_enter Try.func25, Try.ntmps25
  go_wp2_with fail
  obtain ⟨w1, hw1⟩ : ∃ w1, w.alloc (.cells (cts c).toArray 61) = w1 := ⟨_, rfl⟩
  have x1 : Ext w w1 := by rw [← hw1]; exact (Ext.refl w).alloc _ _
  have r1 : w1.rangeAt w.heap.size 0 (cts c) := fun j v hv => by
    rw [← hw1, Nat.zero_add, new_cell]
    simpa using hv
  obtain ⟨b0, _, _, _⟩ := cells_drive (extBlk x1 HD.out.box)
  have g1 := fun x : Gr w1 => x.ext.keeps b0
  have g2 := fun x : Gr w1 => run_loadAt_mid (P := Try.prog) x.w' w.heap.size 0 61 (cts c) _ (rangeAt_ext r1 x.ext) Try.underlying61 rfl (by rw [cts_len]; exact sizeCon)
  have g3 := build_sec c
  have hki : (k : Int) < (n : Int) := by omega
  have HX1 : Hid (Ext w w1) := x1
  rw [hw1]
  refine wp_region_grows 8 (by kernel_rfl) (by kernel_rfl) (fun hne => ?_)
  simp only [List.take_succ_cons, List.take_zero, List.drop_succ_cons, List.drop_zero]
  iterate 5 (go_big_quiet_step (fail))
  refine wpQuiet_at rfl _ (fun w hw => exec_load _ _ rfl rfl (by obtain ⟨x, rfl⟩ := hw; exact g2 x)) ?_
  refine wpQuiet_at rfl _ (fun w hw => exec_build _ _ rfl (vs := #[(0, .agg (cts c).toArray)]) (by simp [Act.eval, Act.put]) (g3 w)) ?_
  simp only [Act.put, List.setIfInBounds_toArray, List.set_cons_succ, List.set_cons_zero]
  repeat (go_big_quiet_step (fail))
  refine wpQuiet_nil ?_
  intro w2 hw2
  obtain ⟨x2, rfl⟩ := hw2
  have hx2 : Ext w x2.w' := HX1.out.trans x2.ext
  have hd2 := HD.out.ext hx2
  have ht : x2.w'.there gp (k * 129) (secC (c, false)).toArray.size := own_there hd2.plate (by rw [List.size_toArray, secC_len]; omega)
  have hi : (Try.prog.info? 68).map (·.size) = some (secC (c, false)).toArray.size := by rw [List.size_toArray, secC_len]; exact (zero_of_info zeroSec).2
  have ho : (secC (c, false)).toArray.all (·.oneCell') = true := all_oneCell_toArray (secC_one _)
  clear g1 g2 g3 r1 x1 b0
  go_wp2_with (refine wpList_store_mid rfl 68 _ _ rfl gp (k * 129) (secC (c, false)).toArray rfl rfl ht hi ho ?_)
  (try simp only [Exit.inBlock, Exit.then])
  refine bodyPost_end (results_none rfl _ _ _) rfl ?_
  exact ⟨rfl, hd2.set hk _, (Wro.ext (S := (· = gp)) hx2).setCells (g := gp) rfl _ _⟩
theorem cts_zero : cts (fun _ => ze) = Z128 := by
  unfold cts Z128
  rw [show (bvs fun _ => ze) = fun _ => Value.int .u8 0 from rfl, List.map_const', List.length_range]
/-- a new drive's sectors -/
def newP (n : Nat) : List ((Nat → E) × Bool) := List.replicate n (fun _ => ze, false)
theorem newP_sec (n : Nat) : (newP n).map secC = List.replicate n (Z128 ++ [Value.bool false]) := by
  unfold newP
  rw [List.map_replicate]
  unfold secC
  rw [cts_zero]
set_option maxRecDepth 100000 in
set_option maxHeartbeats 1600000 in
theorem fresh_any (n : Nat) (w : World) (hn : n ≤ 512) :
    Calls Try.prog 17 #[.int .i64 n] w fun e w' => ∃ gp, e = .returned (.agg #[.slice (some ⟨gp, 0, none⟩) n n, .slice none 0 0, .bool false]) ∧ w'.ownsRow w.heap.size 68 129 (.slice (some ⟨gp, 0, none⟩) n n) n ((newP n).map secC).flatten ∧ Ext w w' := by
  obtain ⟨i0, hi, hz0, hz1, hz2⟩ := info_parts infoSecZ
  have hb' : (i0.bytes : Int) * (n : Int) ≤ 281474976710656 := by rw [hz2]; omega
  have hmk := fun w => run_make (P := Try.prog) w 48 68 i0 _ Try.underlying48 hi hz0 .i64 .i64 n n (by omega) (Int.le_refl _) hb' (by omega)
  simp only [Int.toNat_natCast] at hmk
  go_enter Try.func17, Try.ntmps17
  go_wp2_with fail
  have x2 : Ext (w.alloc (.cells #[.slice (some ⟨w.heap.size + 1, 0, none⟩) n n, .slice none 0 0, .bool false] 51)) ((w.alloc (.cells #[.slice (some ⟨w.heap.size + 1, 0, none⟩) n n, .slice none 0 0, .bool false] 51)).alloc (.cells (madeCells (Z128 ++ [Value.bool false]).toArray (n * 129)) 68)) := (Ext.refl _).alloc _ _
  refine bodyPost_ret (results_cell_row rfl _ _ w.heap.size 51 #[.slice (some ⟨w.heap.size + 1, 0, none⟩) n n, .slice none 0 0, .bool false] (0, 0) _ rfl (extBlk x2 (heap_alloc_new w _)) Try.underlying51 rfl (by kernel_rfl)) rfl ?_
  refine ⟨w.heap.size + 1, rfl, ?_, ((Ext.refl w).alloc _ _).trans x2⟩
  have h := World.ownsRow_lit (base := w.heap.size) (size := 129) (e := 68) (w.alloc (.cells #[.slice (some ⟨w.heap.size + 1, 0, none⟩) n n, .slice none 0 0, .bool false] 51)) (madeCells (Z128 ++ [Value.bool false]).toArray (n * 129)) n (by rw [World.size_alloc]; omega) (by unfold maxLen; omega) (size_madeCells _ _)
  rw [World.size_alloc, made_flat (sz := 129) (by omega) (by rw [List.length_append, Z128_len]; rfl), ← newP_sec] at h
  exact h
end Go.Proofs.Ytgboboojjboocaa
