/-
  space: take and do: one deed; records in new memory, of what was there the units alone are written.
-/
import Derived.Test.YtfpbiimjcdbaoaaChecked
import Derived.WalkKit
import Derived.BigQuiet
import Derived.Laws.ResultCell
import Derived.Laws.Tables
import Derived.Deep.RegionLaw
import Derived.Test.YtfpbiimjcdbaoaaSpaceD
namespace Go.Proofs.Ytfpbiimjcdbaoaa
open Go.RowKit Go.Deep
theorem results_cell2S {P : Program} {fn : Func} {p q : Tmp} {ty : TypeId} (h : fn.results = #[.cell p ty, .tmp q]) (tmps : Array Value) (w : World) (g : Nat) (t : TypeId) (cs : Array Value) (fr : Nat × Nat) (d : TypeDesc) (v : Value)
    (hp : tmps.getD p undef = .pointer (some ⟨g, 0, none⟩)) (hq : tmps.getD q undef = v) (hg : w.heap[g]? = some (.cells cs t fr))
    (hu : P.underlying ty = some d) (hd : (match d with | .struct _ | .array _ _ => true | _ => false) = true) (hi : (P.info? ty).map (·.size) = some cs.size) :
    (results fn tmps).run P w = .ok (.tuple #[.agg cs, v]) w := by
  have hp' : tmps[p]?.getD undef = .pointer (some ⟨g, 0, none⟩) := by simpa using hp
  have hq' : tmps[q]?.getD undef = v := by simpa using hq
  simp [results, h, hp', hq', asAddr, run_loadVar_row w g t ty cs fr d hg hu hd hi]
theorem Ext.blk {w w' : World} (h : Ext w w') {b : Nat} {o : Obj} (hb : w.heap[b]? = some o) : w'.heap[b]? = some o := (h.below.block b (Array.getElem?_eq_some_iff.1 hb).1).trans hb
theorem Wro.blk {T : Nat → Prop} {w w' : World} (h : Wro T w w') {b : Nat} {o : Obj} (hb : w.heap[b]? = some o) (hT : ¬ T b) : w'.heap[b]? = some o := (h.block b (Array.getElem?_eq_some_iff.1 hb).1 hT).trans hb
theorem Wro.setRowNew {T : Nat → Prop} {w w' : World} (h : Wro T w w') {b : Nat} (hb : w.heap.size ≤ b) (cs : Array Value) : Wro T w (w'.setRow b cs) :=
  ⟨h.os, h.tape, h.output, by have := h.size; simpa using this, fun k hk ht => (setRow_other _ _ k _ (by omega)).trans (h.block k hk ht)⟩
theorem Wro.setNew {T : Nat → Prop} {w w' : World} (h : Wro T w w') {p : Addr} (hp : w.heap.size ≤ p.block) (u : Value) : Wro T w (w'.setCell p u) :=
  ⟨h.os, h.tape, h.output, by have := h.size; simpa [World.setCell] using this, fun k hk ht => (Below.heap_setCell _ _ _ _ (by omega)).trans (h.block k hk ht)⟩
theorem row3_set {w : World} {g : Nat} {a b c : Value} {t : TypeId} (h : w.heap[g]? = some (.cells #[a, b, c] t (0, 0))) (x y z : Value) : (((w.setCell ⟨g, 0, none⟩ x).setCell ⟨g, 1, none⟩ y).setCell ⟨g, 2, none⟩ z).heap[g]? = some (.cells #[x, y, z] t (0, 0)) := by
  have h1 := heap_setCell_same w g 0 #[a, b, c] t x h
  have h2 := heap_setCell_same _ g 1 _ t y h1
  have h3 := heap_setCell_same _ g 2 _ t z h2
  rw [h3]
  rfl
theorem row3_cells {w : World} {g : Nat} {a b c : Value} {t : TypeId} (h : w.heap[g]? = some (.cells #[a, b, c] t (0, 0))) : w.cell? ⟨g, 0, none⟩ = some a ∧ w.cell? ⟨g, 1, none⟩ = some b ∧ w.cell? ⟨g, 2, none⟩ = some c ∧ ∀ j, w.frozen? ⟨g, j, none⟩ = false := by
  refine ⟨?_, ?_, ?_, fun j => frozen_of_row w g j _ t h⟩
  · rw [cell_of_row w g 0 _ t (0, 0) h]; rfl
  · rw [cell_of_row w g 1 _ t (0, 0) h]; rfl
  · rw [cell_of_row w g 2 _ t (0, 0) h]; rfl
theorem infoFnd (a b c : Value) : (Try.prog.info? 34).map (·.size) = some (#[a, b, c] : Array Value).size := by kernel_rfl
theorem one3i (a b c : Int) : (#[.int .i64 a, .int .i64 b, .int .i64 c] : Array Value).all (·.oneCell') = true := by simp [Value.oneCell']
/-- what a deed leaves -/
def DoRes (w : World) (g n : Nat) (r : DoR) (e : Ending) (w' : World) : Prop :=
  ∃ v, e = .returned (.tuple #[.agg #[.int .i64 r.code, .int .i64 r.place, .int .i64 0], v]) ∧ w'.ownsRow w.heap.size 69 3 v r.recs.length (fl3 (recV r.recs)) ∧ Uns w' g 63 n r.st ∧ Wro (· = g) w w'
set_option maxRecDepth 100000 in
set_option maxHeartbeats 1600000 in
theorem take_any (g n : Nat) (S : Nat → Int) (c : Int) (w : World) (hn : n ≤ 4096) (h : Uns w g 63 n S) (_hc : -9223372036854775808 ≤ c ∧ c ≤ 9223372036854775807) :
    Calls Try.prog 22 #[.slice (some ⟨g, 0, none⟩) n n, .int .i64 c] w fun e w' => DoRes w g n (takeR n S c) e w' := by
  have HU : Hid (Uns w g 63 n S) := h
  have hgl : g < w.heap.size := World.rowIs.lt h
  clear h
  have x0 : Ext w (w.alloc (.cells #[.int .i64 0, .int .i64 0, .int .i64 0] 34)) := (Ext.refl w).alloc _ _
  by_cases h1 : 1 ≤ c
  · by_cases h2 : c ≤ (n : Int)
    · obtain ⟨C, rfl⟩ : ∃ C : Nat, c = C := ⟨c.toNat, by omega⟩
      have HT := that_any g n S 0 _ hn (x0.rowIs HU.out)
      have HB0 : Hid ((w.alloc (.cells #[.int .i64 0, .int .i64 0, .int .i64 0] 34)).heap[w.heap.size]? = some (.cells #[.int .i64 0, .int .i64 0, .int .i64 0] 34 (0, 0))) := heap_alloc_new _ _
      have hlen := runs_len (isS S 0) n
      go_enter Try.func22, Try.ntmps22
      go_wp2_with fail
      refine HT.mono ?_
      rintro e w1 ⟨r, rfl, ho, hx1⟩
      obtain ⟨_, aR, cR, rfl, hr⟩ := own_rngs ho
      obtain ⟨R, hR⟩ : ∃ R, runs (isS S 0) n = R := ⟨_, rfl⟩
      rw [hR] at hr hlen ⊢
      have HRR : Hid (runs (isS S 0) n = R) := hR
      have HR : Hid (Rngs w1 aR R) := hr
      obtain ⟨k, hk⟩ : ∃ k, R.length = k := ⟨_, rfl⟩
      rw [hk] at hlen ⊢
      have HK : Hid (R.length = k) := hk
      have HX1 : Hid (Ext w w1) := x0.trans hx1
      have HB1 : Hid (w1.heap[w.heap.size]? = some (.cells #[.int .i64 0, .int .i64 0, .int .i64 0] 34 (0, 0))) := hx1.blk HB0.out
      clear ho hr HT hR hk hx1 x0 HB0
      go_wp2_with fail
      go_loopw [20] (fun i wr => ∃ q : Nat, q ≤ k ∧ i = .int .i64 q ∧ Ext w1 wr ∧ fstL (C : Int) (R.drop q) = fstL (C : Int) R) (fun i _ => k - (intOf i).toNat)
      case atStart => exact ⟨0, Nat.zero_le _, rfl, Ext.refl _, rfl⟩
      case round =>
        obtain ⟨q, hq, rfl, hx, hf⟩ := hrel
        have HF : Hid (fstL (C : Int) (R.drop q) = fstL (C : Int) R) := hf
        clear hf
        by_cases hlt : q < k
        · obtain ⟨⟨x, y⟩, e1, e2, e3⟩ := drop_at (L := R) (k := q) (by rw [HK.out]; exact hlt)
          obtain ⟨b, o, rfl, hc1, hc2⟩ := (HR.out.ext hx) q x y e1
          have hbd := (runs_spec (isS S 0) n).bd (x, y) (by rw [HRR.out]; exact e3)
          simp only at hbd
          have H2 : Hid (fstL (C : Int) R = if (C : Int) ≤ y - x then some x else fstL (C : Int) (R.drop (q + 1))) := by
            show _ = _
            rw [← HF.out, e2]
            rfl
          have hxy : x < y := (runs_spec (isS S 0) n).nrm.lt (x, y) (by rw [HRR.out]; exact e3)
          clear e1 e2 e3
          by_cases hfit : (C : Int) ≤ y - x
          · have hfst : fstL (C : Int) (runs (isS S 0) n) = some x := by rw [HRR.out, H2.out, if_pos hfit]
            obtain ⟨hx0, hxn, _⟩ := fst_runs h1 hfst
            obtain ⟨X, rfl⟩ : ∃ X : Nat, x = X := ⟨x.toNat, by omega⟩
            have exc : ((X : Int) + (C : Int)).toNat = X + C := by omega
            have hall : allS S X (X + C) 0 = true := by
              have := take_all h1 hfst
              rwa [Int.toNat_natCast, exc] at this
            have HE : Hid (takeR n S (C : Int) = ⟨0, (X : Int), putS S X (X + C) 1, [(false, (X : Int), (X : Int) + (C : Int))]⟩) := by
              show _ = _
              unfold takeR
              rw [if_pos ⟨h1, h2⟩, hfst]
              simp only [Int.toNat_natCast, exc]
            have xr : Ext wr (wr.alloc (.cells #[.int .i64 (X : Int), .int .i64 ((X : Int) + (C : Int))] 53)) := (Ext.refl wr).alloc _ _
            have hT := turn_any g n S X (X + C) 0 1 (wr.alloc (.cells #[.int .i64 (X : Int), .int .i64 ((X : Int) + (C : Int))] 53)) hn (by omega) (by omega) (xr.rowIs ((HX1.out.trans hx).rowIs HU.out))
            rw [show ((X + C : Nat) : Int) = (X : Int) + (C : Int) by omega, hall] at hT
            have HTS : Hid (turnS S X (X + C) 0 1 = putS S X (X + C) 1) := by show _ = _; unfold turnS; rw [hall]; rfl
            have HXR : Hid (Ext w (wr.alloc (.cells #[.int .i64 (X : Int), .int .i64 ((X : Int) + (C : Int))] 53))) := (HX1.out.trans hx).trans xr
            have HBr : Hid ((wr.alloc (.cells #[.int .i64 (X : Int), .int .i64 ((X : Int) + (C : Int))] 53)).heap[w.heap.size]? = some (.cells #[.int .i64 0, .int .i64 0, .int .i64 0] 34 (0, 0))) := xr.blk (hx.blk HB1.out)
            have hwr : w.heap.size ≤ wr.heap.size := (HX1.out.trans hx).size
            clear hfst hall exc xr
            go_wp2_with fail
            refine hT.mono ?_
            rintro e w4 ⟨rfl, hu4, hw4⟩
            rw [HTS.out] at hu4
            have HU4 : Hid (Uns w4 g 63 n (putS S X (X + C) 1)) := hu4
            have c0 : w4.cell? ⟨wr.heap.size, 0, none⟩ = some (.int .i64 (X : Int)) := hw4.cell (new_cell wr #[.int .i64 (X : Int), .int .i64 ((X : Int) + (C : Int))] 53 0) (by show ¬ wr.heap.size = g; omega)
            have c1 : w4.cell? ⟨wr.heap.size, 1, none⟩ = some (.int .i64 ((X : Int) + (C : Int))) := hw4.cell (new_cell wr #[.int .i64 (X : Int), .int .i64 ((X : Int) + (C : Int))] 53 1) (by show ¬ wr.heap.size = g; omega)
            have HB4 : Hid (w4.heap[w.heap.size]? = some (.cells #[.int .i64 0, .int .i64 0, .int .i64 0] 34 (0, 0))) := hw4.blk HBr.out (by show ¬ w.heap.size = g; omega)
            have HW4 : Hid (Wro (· = g) w w4) := (Wro.ext HXR.out).trans hw4
            have k0 := fun o => alloc_keeps c0 o
            have k1 := fun o => alloc_keeps c1 o
            have HC0 : Hid (w4.cell? ⟨wr.heap.size, 0, none⟩ = some (.int .i64 (X : Int))) := c0
            have HC1 : Hid (w4.cell? ⟨wr.heap.size, 1, none⟩ = some (.int .i64 ((X : Int) + (C : Int)))) := c1
            have x5 : Ext w4 (w4.alloc (.cells #[.int .i64 (X : Int), .int .i64 ((X : Int) + (C : Int))] 53)).drew := ((Ext.refl w4).alloc _ _).drew
            have HX5 : Hid (Ext w4 (w4.alloc (.cells #[.int .i64 (X : Int), .int .i64 ((X : Int) + (C : Int))] 53)).drew) := x5
            have HRc : Hid (Calls Try.prog 21 #[.bool false, .slice (some ⟨w4.heap.size, 0, none⟩) 1 1] (w4.alloc (.cells #[.int .i64 (X : Int), .int .i64 ((X : Int) + (C : Int))] 53)).drew fun e w' => ∃ v, e = .returned v ∧ w'.ownsRow w4.heap.size 69 3 v 1 (fl3 (recL false [((X : Int), (X : Int) + (C : Int))])) ∧ Ext w4 w') :=
              by
                have hh := records_any false (some ⟨w4.heap.size, 0, none⟩) 1 1 [((X : Int), (X : Int) + (C : Int))] (w4.alloc (.cells #[.int .i64 (X : Int), .int .i64 ((X : Int) + (C : Int))] 53)).drew rfl (by omega) (rngs_one (new_cell w4 #[.int .i64 (X : Int), .int .i64 ((X : Int) + (C : Int))] 53 0) (new_cell w4 #[.int .i64 (X : Int), .int .i64 ((X : Int) + (C : Int))] 53 1))
                refine hh.mono ?_
                rintro e w' ⟨v, h1, h2, h3⟩
                exact ⟨v, h1, own_mono h2 x5.size, x5.trans h3⟩
            clear hu4 hw4 hT x5 hc1 hc2
            go_wp2_with fail
            have HF1 : Hid ((Try.f21.name == "runtime.NumGoroutine") = false ∧ Try.f21.body.isNone = false) := ⟨by kernel_rfl, by kernel_rfl⟩
            go_region_law (first
              | (refine step_callx (by rfl) 21 Try.func21 HF1.out.1 HF1.out.2 [.const (.bool false), .tmp 43] _ (by rfl) [.bool false, .slice (some ⟨w4.heap.size, 0, none⟩) 1 1] (by first | (simp [Act.eval]; done) | simp [Act.eval, Act.put]) (fun v w' => w'.ownsRow w4.heap.size 69 3 v 1 (fl3 (recL false [((X : Int), (X : Int) + (C : Int))])) ∧ Ext w4 w') HRc.out ?_; intro v5 w5 hR5; obtain ⟨ho5, hx5⟩ := hR5; have c5 := hx5.keeps HC0.out; have d5 := hx5.keeps HC1.out; have hold := hx5.blk HB4.out; have hrow := row3_cells hold; obtain ⟨r0, r1, r2, r3⟩ := hrow; have z0 := r3 0; have z1 := r3 1; have z2 := r3 2; clear r3))

            all_goals
              have HO5 : Hid (w5.ownsRow w4.heap.size 69 3 v5 1 (fl3 (recL false [((X : Int), (X : Int) + (C : Int))]))) := ho5
              have HH5 : Hid (w5.heap[w.heap.size]? = some (.cells #[.int .i64 0, .int .i64 0, .int .i64 0] 34 (0, 0))) := hold
              clear ho5 c5 d5 hold r0 r1 r2 z0 z1 z2
              go_wp2_with fail
              refine bodyPost_ret (results_cell2S rfl _ _ w.heap.size 34 #[.int .i64 0, .int .i64 (X : Int), .int .i64 0] (0, 0) _ v5 rfl rfl (row3_set HH5.out _ _ _) Try.underlying34 rfl (infoFnd _ _ _)) rfl ?_
              show DoRes _ _ _ _ _ _
              rw [HE.out]
              refine ⟨_, rfl, ?_, ((World.rowIs.setOther (World.rowIs.setOther (World.rowIs.setOther (hx5.rowIs HU4.out) (a := ⟨w.heap.size, 0, none⟩) (by show g ≠ w.heap.size; omega) _) (a := ⟨w.heap.size, 1, none⟩) (by show g ≠ w.heap.size; omega) _) (a := ⟨w.heap.size, 2, none⟩) (by show g ≠ w.heap.size; omega) _)), (((HW4.out.then_ext hx5).setNew (p := ⟨w.heap.size, 0, none⟩) (Nat.le_refl _) _).setNew (p := ⟨w.heap.size, 1, none⟩) (Nat.le_refl _) _).setNew (p := ⟨w.heap.size, 2, none⟩) (Nat.le_refl _) _⟩
              refine own_wroS (T := (· = w.heap.size)) (own_mono HO5.out HW4.out.size) ((((Wro.refl (· = w.heap.size) _).setCell (p := ⟨w.heap.size, 0, none⟩) rfl _).setCell (p := ⟨w.heap.size, 1, none⟩) rfl _).setCell (p := ⟨w.heap.size, 2, none⟩) rfl _) fun b hb e => ?_
              have h8 := own_geS HO5.out hb
              have h9 := (Array.getElem?_eq_some_iff.1 HB4.out).1
              omega
          · have i1 : y - x < (C : Int) := by omega
            go_wp2_with fail
            go_roundw
            case rel => exact ⟨q + 1, by omega, by go_num, hx.alloc _ _, by rw [H2.out, if_neg hfit]⟩
            case measure => simp [intOf]; omega
        · have e : R.drop q = [] := List.drop_eq_nil_of_le (by rw [HK.out]; omega)
          have HE : Hid (takeR n S (C : Int) = ⟨8, 0, S, []⟩) := by
            have h3 := HF.out
            rw [e] at h3
            show _ = _
            unfold takeR
            rw [if_pos ⟨h1, h2⟩, HRR.out, ← h3]
            rfl
          have hold := hx.blk HB1.out
          have hi3 := infoFnd (.int .i64 8) (.int .i64 0) (.int .i64 0)
          have hone := one3i 8 0 0
          clear e
          go_wp2_with (refine wpList_store_row rfl 34 _ _ rfl w.heap.size #[.int .i64 8, .int .i64 0, .int .i64 0] rfl rfl 34 _ hold hi3 rfl hone ?_)
          refine bodyPost_ret (results_cell2S rfl _ _ w.heap.size 34 #[.int .i64 8, .int .i64 0, .int .i64 0] (0, 0) _ (.slice none 0 0) rfl rfl (setRow_heap _ _ _ _ _ _ hold) Try.underlying34 rfl (infoFnd _ _ _)) rfl ?_
          show DoRes _ _ _ _ _ _
          rw [HE.out]
          exact ⟨_, rfl, World.ownsRow_nil _ _ _ _, World.rowIs.of_block ((HX1.out.trans hx).rowIs HU.out) (setRow_other _ _ _ _ (by omega)), (Wro.ext (HX1.out.trans hx)).setRowNew (Nat.le_refl _) _⟩
    · have HE : Hid (takeR n S c = ⟨2, 0, S, []⟩) := by
        show _ = _
        unfold takeR
        rw [if_neg (fun q => h2 q.2)]
      go_enter Try.func22, Try.ntmps22
      go_wp2_with fail
      refine bodyPost_ret (results_cell2S rfl _ _ w.heap.size 34 #[.int .i64 2, .int .i64 0, .int .i64 0] (0, 0) _ (.slice none 0 0) rfl rfl (heap_alloc_new _ _) Try.underlying34 rfl (infoFnd _ _ _)) rfl ?_
      show DoRes _ _ _ _ _ _
      rw [HE.out]
      exact ⟨_, rfl, World.ownsRow_nil _ _ _ _, World.rowIs.alloc HU.out _, Wro.ext ((Ext.refl w).alloc _ _)⟩
  · have HE : Hid (takeR n S c = ⟨2, 0, S, []⟩) := by
      show _ = _
      unfold takeR
      rw [if_neg (fun q => h1 q.1)]
    go_enter Try.func22, Try.ntmps22
    go_wp2_with fail
    refine bodyPost_ret (results_cell2S rfl _ _ w.heap.size 34 #[.int .i64 2, .int .i64 0, .int .i64 0] (0, 0) _ (.slice none 0 0) rfl rfl (heap_alloc_new _ _) Try.underlying34 rfl (infoFnd _ _ _)) rfl ?_
    show DoRes _ _ _ _ _ _
    rw [HE.out]
    exact ⟨_, rfl, World.ownsRow_nil _ _ _ _, World.rowIs.alloc HU.out _, Wro.ext ((Ext.refl w).alloc _ _)⟩
end Go.Proofs.Ytfpbiimjcdbaoaa
