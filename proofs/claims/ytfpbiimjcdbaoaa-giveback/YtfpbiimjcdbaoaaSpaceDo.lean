/-
  space.do: one deed, whatever kind.
-/
import Derived.Test.YtfpbiimjcdbaoaaChecked
import Derived.WalkKit
import Derived.BigQuiet
import Derived.Test.YtfpbiimjcdbaoaaSpaceT
namespace Go.Proofs.Ytfpbiimjcdbaoaa
open Go.RowKit Go.Deep
set_option maxRecDepth 100000 in
set_option maxHeartbeats 800000 in
theorem do_any (g n : Nat) (S : Nat → Int) (k f c : Int) (w : World) (hn : n ≤ 4096) (h : Uns w g 63 n S) (hf : -9223372036854775808 ≤ f ∧ f ≤ 9223372036854775807) (hc : -9223372036854775808 ≤ c ∧ c ≤ 9223372036854775807) :
    Calls Try.prog 17 #[.slice (some ⟨g, 0, none⟩) n n, .agg #[.int .i64 k, .int .i64 f, .int .i64 c]] w fun e w' => DoRes w g n (doS n S (k, f, c)) e w' := by
  have HU : Hid (Uns w g 63 n S) := h
  have hgl : g < w.heap.size := World.rowIs.lt h
  obtain ⟨w2, hw2⟩ : ∃ w2, w2 = (w.alloc (.cells #[.int .i64 k, .int .i64 f, .int .i64 c] 31)).alloc (.cells #[.int .i64 0, .int .i64 0, .int .i64 0] 34) := ⟨_, rfl⟩
  have x2 : Ext w w2 := by rw [hw2]; exact ((Ext.refl w).alloc _ _).alloc _ _
  have s2 : w2.heap.size = w.heap.size + 2 := by rw [hw2]; simp only [World.size_alloc]
  have HB2 : Hid (w2.heap[w.heap.size + 1]? = some (.cells #[.int .i64 0, .int .i64 0, .int .i64 0] 34 (0, 0))) := by
    have e := heap_alloc_new (w.alloc (.cells #[.int .i64 k, .int .i64 f, .int .i64 c] 31)) (.cells #[.int .i64 0, .int .i64 0, .int .i64 0] 34)
    rw [World.size_alloc] at e
    rw [hw2]
    exact e
  have HX2 : Hid (Ext w w2) := x2
  have HS2 : Hid (w2.heap.size = w.heap.size + 2) := s2
  have HW2 : Hid (w2 = (w.alloc (.cells #[.int .i64 k, .int .i64 f, .int .i64 c] 31)).alloc (.cells #[.int .i64 0, .int .i64 0, .int .i64 0] 34)) := hw2
  have HU2 : Hid (Uns w2 g 63 n S) := x2.rowIs h
  clear h x2 s2
  by_cases k1 : k = 1
  · subst k1
    have HT := take_any g n S c w2 hn HU2.out hc
    have HE : Hid (doS n S (1, f, c) = takeR n S c) := rfl
    rw [hw2] at HT
    clear hw2
    go_enter Try.func17, Try.ntmps17
    go_wp2_with fail
    refine HT.mono ?_
    rw [← HW2.out]
    rintro e w3 ⟨v, rfl, ho, hu, hw⟩
    obtain ⟨r, hr⟩ : ∃ r, takeR n S c = r := ⟨_, rfl⟩
    rw [hr] at ho hu ⊢
    have HE2 : Hid (doS n S (1, f, c) = r) := by show _ = _; rw [HE.out, hr]
    have HO : Hid (w3.ownsRow w2.heap.size 69 3 v r.recs.length (fl3 (recV r.recs))) := ho
    have HU3 : Hid (Uns w3 g 63 n r.st) := hu
    have hold := hw.blk HB2.out (by show ¬ w.heap.size + 1 = g; omega)
    have hi3 := infoFnd (.int .i64 r.code) (.int .i64 r.place) (.int .i64 0)
    have hone := one3i r.code r.place 0
    clear ho hu hr HT HE
    go_wp2_with (refine wpList_store_row rfl 34 _ _ rfl (w.heap.size + 1) #[.int .i64 r.code, .int .i64 r.place, .int .i64 0] rfl rfl 34 _ hold hi3 rfl hone ?_)
    refine bodyPost_ret (results_cell2S rfl _ _ (w.heap.size + 1) 34 #[.int .i64 r.code, .int .i64 r.place, .int .i64 0] (0, 0) _ v rfl rfl (setRow_heap _ _ _ _ _ _ hold) Try.underlying34 rfl (infoFnd _ _ _)) rfl ?_
    show DoRes _ _ _ _ _ _
    rw [HE2.out]
    refine ⟨_, rfl, ?_, World.rowIs.of_block HU3.out (setRow_other _ _ _ _ (by omega)), ((Wro.ext HX2.out).trans hw).setRowNew (by omega) _⟩
    refine own_wroS (T := (· = w.heap.size + 1)) (own_mono HO.out HX2.out.size) ⟨rfl, rfl, rfl, by simp, fun k _ hk => setRow_other _ _ k _ hk⟩ fun b hb e => ?_
    have h8 := own_geS HO.out hb
    have h9 := HS2.out
    omega
  · have d1 : (k == 1) = false := by simp [k1]
    by_cases k2 : k = 2
    · subst k2
      have HT := give_any g n S f c w2 hn HU2.out hf hc
      have HE : Hid (doS n S (2, f, c) = giveR n S f c) := rfl
      have HEr : Hid ((giveR n S f c).recs = [] ∧ (giveR n S f c).place = 0) := by
        show _ ∧ _
        unfold giveR
        split
        · split
          · exact ⟨rfl, rfl⟩
          · exact ⟨rfl, rfl⟩
        · exact ⟨rfl, rfl⟩
      rw [hw2] at HT
      clear hw2
      go_enter Try.func17, Try.ntmps17
      go_wp2_with fail
      refine HT.mono ?_
      rw [← HW2.out]
      rintro e w3 ⟨rfl, hu, hw⟩
      obtain ⟨r, hr⟩ : ∃ r, giveR n S f c = r := ⟨_, rfl⟩
      rw [hr] at hu HEr ⊢
      have HE2 : Hid (doS n S (2, f, c) = r) := by show _ = _; rw [HE.out, hr]
      have HU3 : Hid (Uns w3 g 63 n r.st) := hu
      have hold := hw.blk HB2.out (by show ¬ w.heap.size + 1 = g; omega)
      have hi3 := infoFnd (.int .i64 r.code) (.int .i64 0) (.int .i64 0)
      have hone := one3i r.code 0 0
      clear hu hr HT HE
      go_wp2_with (refine wpList_store_row rfl 34 _ _ rfl (w.heap.size + 1) #[.int .i64 r.code, .int .i64 0, .int .i64 0] rfl rfl 34 _ hold hi3 rfl hone ?_)
      refine bodyPost_ret (results_cell2S rfl _ _ (w.heap.size + 1) 34 #[.int .i64 r.code, .int .i64 0, .int .i64 0] (0, 0) _ (.slice none 0 0) rfl rfl (setRow_heap _ _ _ _ _ _ hold) Try.underlying34 rfl (infoFnd _ _ _)) rfl ?_
      show DoRes _ _ _ _ _ _
      rw [HE2.out]
      exact ⟨_, by rw [HEr.out.2], by rw [HEr.out.1]; exact World.ownsRow_nil _ _ _ _, World.rowIs.of_block HU3.out (setRow_other _ _ _ _ (by omega)), ((Wro.ext HX2.out).trans hw).setRowNew (by omega) _⟩
    · have d2 : (k == 2) = false := by simp [k2]
      by_cases k3 : k = 3
      · subst k3
        have HT := commit_any g n S w2 hn HU2.out
        have HE : Hid (doS n S (3, f, c) = commitR n S) := rfl
        rw [hw2] at HT
        clear hw2
        go_enter Try.func17, Try.ntmps17
        go_wp2_with fail
        refine HT.mono ?_
        rw [← HW2.out]
        rintro e w3 ⟨v, rfl, ho, hu, hw⟩
        have HO : Hid (w3.ownsRow w2.heap.size 69 3 v (commitR n S).recs.length (fl3 (recV (commitR n S).recs))) := ho
        have HU3 : Hid (Uns w3 g 63 n (commitR n S).st) := hu
        have hold := hw.blk HB2.out (by show ¬ w.heap.size + 1 = g; omega)
        have hi3 := infoFnd (.int .i64 0) (.int .i64 0) (.int .i64 0)
        have hone := one3i 0 0 0
        clear ho hu HT
        go_wp2_with (refine wpList_store_row rfl 34 _ _ rfl (w.heap.size + 1) #[.int .i64 0, .int .i64 0, .int .i64 0] rfl rfl 34 _ hold hi3 rfl hone ?_)
        refine bodyPost_ret (results_cell2S rfl _ _ (w.heap.size + 1) 34 #[.int .i64 0, .int .i64 0, .int .i64 0] (0, 0) _ v rfl rfl (setRow_heap _ _ _ _ _ _ hold) Try.underlying34 rfl (infoFnd _ _ _)) rfl ?_
        show DoRes _ _ _ _ _ _
        rw [HE.out]
        refine ⟨_, rfl, ?_, World.rowIs.of_block HU3.out (setRow_other _ _ _ _ (by omega)), ((Wro.ext HX2.out).trans hw).setRowNew (by omega) _⟩
        refine own_wroS (T := (· = w.heap.size + 1)) (own_mono HO.out HX2.out.size) ⟨rfl, rfl, rfl, by simp, fun k _ hk => setRow_other _ _ k _ hk⟩ fun b hb e => ?_
        have h8 := own_geS HO.out hb
        have h9 := HS2.out
        omega
      · have d3 : (k == 3) = false := by simp [k3]
        have HE : Hid (doS n S (k, f, c) = ⟨3, 0, S, []⟩) := by
          show _ = _
          unfold doS
          rw [if_neg k1, if_neg k2, if_neg k3]
        clear hw2 k1 k2 k3
        go_enter Try.func17, Try.ntmps17
        go_wp2_with fail
        refine bodyPost_ret (results_cell2S rfl _ _ (w.heap.size + 1) 34 #[.int .i64 3, .int .i64 0, .int .i64 0] (0, 0) _ (.slice none 0 0) rfl rfl (by have e := heap_alloc_new (w.alloc (.cells #[.int .i64 k, .int .i64 f, .int .i64 c] 31)) (.cells #[.int .i64 3, .int .i64 0, .int .i64 0] 34); rw [World.size_alloc] at e; exact e) Try.underlying34 rfl (infoFnd _ _ _)) rfl ?_
        show DoRes _ _ _ _ _ _
        rw [HE.out]
        exact ⟨_, rfl, World.ownsRow_nil _ _ _ _, World.rowIs.alloc (World.rowIs.alloc HU.out _) _, Wro.ext (((Ext.refl w).alloc _ _).alloc _ _)⟩
end Go.Proofs.Ytfpbiimjcdbaoaa
